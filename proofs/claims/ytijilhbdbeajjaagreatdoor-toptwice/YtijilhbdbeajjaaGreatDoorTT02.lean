/- lock.Name and the document's NameMay: both tell whether a text is a name, at every text; lock.isClient, lock.lineInForm, lock.inForm: may the name, the holder and the line be those of a lock?; lock.inForm: may the name, the holder and the line be those of a lock?; lock.Check: what is wrong with locks; Plain mathematics of pairs: when may they be; where a name stands; what is set, what is got; pair.Check, and the document's PairsFault: what is wrong with pairs; session.within, isClient, inRange, mayBeKept, inForm, Check; session.inForm, session.Check; machine.Check; Two laws on builtins at elements of several cells: copy into a row that is known; append of zero elements that grows. They import no program; slices.Clone of numbers: the same numbers, in new memory; strings.Clone: the same bytes, in new memory; by the shelf's contract on the library's inner function (joined by program) -/
import Derived.Test.YtijilhbdbeajjaaGreatDoorRows
import Derived.WalkKit
import Derived.ProofKit
import Derived.WalkLawsBesides
import Derived.Laws.Cover1
import Derived.Deep.QuietTactic
import Derived.BigQuiet
import Derived.Laws.CopyOwn
import Derived.Laws.AppendOwn
import Derived.RegionTactic
import Derived.Lib.SliceRun
import Derived.Shelf.LaysM
import Derived.Shelf.Strconv.Clone
import Derived.Test.YtijilhbdbeajjaaGreatDoorTT00
import Derived.Test.YtijilhbdbeajjaaGreatDoorTT01
namespace Go.Proofs.YtijilhbdbeajjaaGreatDoor

open Go.RowKit

set_option maxHeartbeats 400000 in
theorem name_yes (s : ByteArray) (w : World) (h : nameB s = true) :
    Calls Tryz.prog 116 #[.string s] w fun e w' => e = .returned (.bool true) ∧ w' = w := by
  obtain ⟨h1, h2, h3⟩ := nameB_yes h
  clear h
  go_enter Tryz.func116, Tryz.ntmps116
  go_wp2
  go_loop [14] (fun i => ∃ k : Nat, k ≤ s.size ∧ i = .int .i64 k) (fun i => s.size - (intOf i).toNat)
  case atStart => exact ⟨0, Nat.zero_le _, rfl⟩
  case round =>
    obtain ⟨k, hk, rfl⟩ := hrel
    by_cases hlt : k < s.size
    · obtain ⟨h4, h5⟩ := h3 k hlt
      go_wp2
      go_round
      case rel => exact ⟨k + 1, by omega, by go_num⟩
      case measure => simp [intOf]; omega
    · go_wp2
      go_ret
      exact ⟨rfl, rfl⟩

set_option maxHeartbeats 400000 in
theorem name_no (s : ByteArray) (w : World) (hs : s.size ≤ 9223372036854775807) (h : nameB s = false) :
    Calls Tryz.prog 116 #[.string s] w fun e w' => e = .returned (.bool false) ∧ w' = w := by
  by_cases h1 : s.size < 1
  · go_enter Tryz.func116, Tryz.ntmps116
    go_wp2
    go_ret
    exact ⟨rfl, rfl⟩
  · by_cases h2 : 6 < s.size
    · go_enter Tryz.func116, Tryz.ntmps116
      go_wp2
      go_ret
      exact ⟨rfl, rfl⟩
    · obtain ⟨j, hj, hbad⟩ := nameB_no h (by omega) (by omega)
      clear h
      go_enter Tryz.func116, Tryz.ntmps116
      go_wp2
      go_loop [14] (fun i => ∃ k : Nat, k ≤ j ∧ i = .int .i64 k) (fun i => s.size - (intOf i).toNat)
      case atStart => exact ⟨0, Nat.zero_le _, rfl⟩
      case round =>
        obtain ⟨k, hk, rfl⟩ := hrel
        have hlt : k < s.size := by omega
        by_cases h4 : (s[k].toNat : Int) < 97
        · clear hbad
          go_wp2
          go_ret
          exact ⟨rfl, rfl⟩
        · by_cases h5 : 122 < (s[k].toNat : Int)
          · clear hbad
            go_wp2
            go_ret
            exact ⟨rfl, rfl⟩
          · have hne : k ≠ j := by rintro rfl; omega
            clear hbad
            have hkj : k < j := by omega
            clear hne
            go_wp2
            go_round
            case rel => exact ⟨k + 1, by omega, by go_num⟩
            case measure => simp [intOf]; omega

theorem name_any (s : ByteArray) (w : World) (hs : s.size ≤ 9223372036854775807) :
    Calls Tryz.prog 116 #[.string s] w fun e w' => e = .returned (.bool (nameB s)) ∧ w' = w := by
  cases h : nameB s with
  | true => exact name_yes s w h
  | false => exact name_no s w hs h

end Go.Proofs.YtijilhbdbeajjaaGreatDoor

namespace Go.Proofs.YtijilhbdbeajjaaGreatDoor

open Go.RowKit

theorem isClient_yes (n : Int) (w : World) (h1 : 1 ≤ n) (h2 : n ≤ 9) :
    Calls Tryz.prog 137 #[.int .i64 n] w fun e w' => e = .returned (.bool true) ∧ w' = w := by
  go_enter Tryz.func137, Tryz.ntmps137
  go_wp2
  go_ret
  exact ⟨rfl, rfl⟩

theorem isClient_no (n : Int) (w : World) (h : n < 1 ∨ 9 < n) :
    Calls Tryz.prog 137 #[.int .i64 n] w fun e w' => e = .returned (.bool false) ∧ w' = w := by
  rcases h with h | h
  · have h1 : ¬ 1 ≤ n := by omega
    go_enter Tryz.func137, Tryz.ntmps137
    go_wp2
    go_ret
    exact ⟨rfl, rfl⟩
  · have h1 : 1 ≤ n := by omega
    have h2 : ¬ n ≤ 9 := by omega
    go_enter Tryz.func137, Tryz.ntmps137
    go_wp2
    go_ret
    exact ⟨rfl, rfl⟩

set_option maxHeartbeats 800000 in
theorem line_yes (v : Value) (xs : List Int) (h : Int) (w : World) (B : Nat) (hv : IntsR w B v xs) (hl : lineB xs h = true) :
    Calls Tryz.prog 143 #[v, .int .i64 h] w fun e w' => e = .returned (.bool true) ∧ w' = w := by
  obtain ⟨l1, l2, l3⟩ := lineB_yes hl
  have H3 : Hid (∀ i x, xs[i]? = some x → 1 ≤ x ∧ x ≤ 9 ∧ x ≠ h ∧ hasB x (xs.take i) = false) := l3
  clear hl l3
  obtain ⟨ao, cap, rfl, h1, h2, h3, h4⟩ := hv
  by_cases hyp : h = 0
  · have hx : xs = [] := List.eq_nil_of_length_eq_zero (by
      by_cases hp : 0 < xs.length
      · exact absurd ⟨hyp, hp⟩ l2
      · exact Nat.eq_zero_of_not_pos hp)
    subst hx
    subst hyp
    clear l2 h4 H3
    simp only [List.length_nil]
    go_enter Tryz.func143, Tryz.ntmps143
    go_wp2
    go_loop [21] (fun i => i = .int .i64 0) (fun i => 0)
    case atStart => rfl
    case round =>
      subst hrel
      go_wp2
      go_ret
      exact ⟨rfl, rfl⟩
  · clear l2
    go_enter Tryz.func143, Tryz.ntmps143
    go_wp2
    go_loop [21] (fun i => ∃ k : Nat, k ≤ xs.length ∧ i = .int .i64 k) (fun i => xs.length - (intOf i).toNat)
    case atStart => exact ⟨0, Nat.zero_le _, rfl⟩
    case round =>
      obtain ⟨k, hk, rfl⟩ := hrel
      by_cases hlt : k < xs.length
      · obtain ⟨b, off, rfl, hb, hc⟩ := h4 (by omega)
        obtain ⟨y, hy⟩ : ∃ y, xs[k]? = some y := ⟨_, List.getElem?_eq_getElem hlt⟩
        have hcell := hc k y hy
        obtain ⟨y1, y2, y3, y4⟩ := H3.out k y hy
        have hkc : k ≤ cap := by omega
        have HT : Hid (IntsR w B (.slice (some ⟨b, off, none⟩) k cap) (xs.take k)) := ints_take hk h1 h2 hb hc
        have HH : Hid (hasB y (xs.take k) = false) := y4
        clear hy hc h4 y4
        go_wp2_with fail
        refine (isClient_yes y _ y1 y2).mono ?_
        rintro e w1 ⟨rfl, rfl⟩
        go_wp2_with fail
        refine (contains_any _ _ y _ B HT.out).mono ?_
        rintro e w1 ⟨rfl, rfl⟩
        rw [HH.out]
        go_wp2
        go_round
        case rel => exact ⟨k + 1, by omega, by go_num⟩
        case measure => simp [intOf]; omega
      · go_wp2
        go_ret
        exact ⟨rfl, rfl⟩

set_option maxHeartbeats 800000 in
theorem line_no (v : Value) (xs : List Int) (h : Int) (w : World) (B : Nat) (hv : IntsR w B v xs) (hl : lineB xs h = false) :
    Calls Tryz.prog 143 #[v, .int .i64 h] w fun e w' => e = .returned (.bool false) ∧ w' = w := by
  obtain ⟨ao, cap, rfl, h1, h2, h3, h4⟩ := hv
  by_cases c1 : 3 < xs.length
  · go_enter Tryz.func143, Tryz.ntmps143
    go_wp2
    go_ret
    exact ⟨rfl, rfl⟩
  · by_cases c2 : h = 0 ∧ 0 < xs.length
    · obtain ⟨c2, c3⟩ := c2
      subst c2
      go_enter Tryz.func143, Tryz.ntmps143
      go_wp2
      go_ret
      exact ⟨rfl, rfl⟩
    · obtain ⟨j, z, hz, hbad⟩ := lineB_no hl (by omega) c2
      have hjl : j < xs.length := (List.getElem?_eq_some_iff.1 hz).1
      have hh0 : ¬ h = 0 := fun e => c2 ⟨e, by omega⟩
      have HB : Hid (z < 1 ∨ 9 < z ∨ z = h ∨ hasB z (xs.take j) = true) := hbad
      have HZ : Hid (xs[j]? = some z) := hz
      clear hl c2 hbad hz
      go_enter Tryz.func143, Tryz.ntmps143
      go_wp2
      go_loop [21] (fun i => ∃ k : Nat, k ≤ j ∧ i = .int .i64 k) (fun i => xs.length - (intOf i).toNat)
      case atStart => exact ⟨0, Nat.zero_le _, rfl⟩
      case round =>
        obtain ⟨k, hk, rfl⟩ := hrel
        have hlt : k < xs.length := by omega
        obtain ⟨b, off, rfl, hb, hc⟩ := h4 (by omega)
        obtain ⟨y, hy⟩ : ∃ y, xs[k]? = some y := ⟨_, List.getElem?_eq_getElem hlt⟩
        have hcell := hc k y hy
        have hkc : k ≤ cap := by omega
        have HT : Hid (IntsR w B (.slice (some ⟨b, off, none⟩) k cap) (xs.take k)) := ints_take (by omega) h1 h2 hb hc
        have HY : Hid (xs[k]? = some y) := hy
        clear hy hc h4
        by_cases y1 : y < 1 ∨ 9 < y
        · have HC := isClient_no y w y1
          clear y1
          go_wp2_with fail
          refine HC.mono ?_
          rintro e w1 ⟨rfl, rfl⟩
          go_wp2
          go_ret
          exact ⟨rfl, rfl⟩
        · have y2 : 1 ≤ y := by omega
          have y3 : y ≤ 9 := by omega
          clear y1
          by_cases y4 : y = h
          · subst y4
            go_wp2_with fail
            refine (isClient_yes y _ y2 y3).mono ?_
            rintro e w1 ⟨rfl, rfl⟩
            go_wp2
            go_ret
            exact ⟨rfl, rfl⟩
          · cases y5 : hasB y (xs.take k) with
            | true =>
              have H5 : Hid (hasB y (xs.take k) = true) := y5
              clear y5
              go_wp2_with fail
              refine (isClient_yes y _ y2 y3).mono ?_
              rintro e w1 ⟨rfl, rfl⟩
              go_wp2_with fail
              refine (contains_any _ _ y _ B HT.out).mono ?_
              rintro e w1 ⟨rfl, rfl⟩
              rw [H5.out]
              go_wp2
              go_ret
              exact ⟨rfl, rfl⟩
            | false =>
              have hkj : k < j := by
                by_cases e : k = j
                · subst e
                  have e2 : y = z := by have := HY.out; rw [HZ.out] at this; simpa using this.symm
                  subst e2
                  rcases HB.out with q | q | q | q
                  · omega
                  · omega
                  · exact absurd q y4
                  · rw [y5] at q; cases q
                · omega
              have H5 : Hid (hasB y (xs.take k) = false) := y5
              clear y5
              go_wp2_with fail
              refine (isClient_yes y _ y2 y3).mono ?_
              rintro e w1 ⟨rfl, rfl⟩
              go_wp2_with fail
              refine (contains_any _ _ y _ B HT.out).mono ?_
              rintro e w1 ⟨rfl, rfl⟩
              rw [H5.out]
              go_wp2
              go_round
              case rel => exact ⟨k + 1, by omega, by go_num⟩
              case measure => simp [intOf]; omega

theorem line_any (v : Value) (xs : List Int) (h : Int) (w : World) (B : Nat) (hv : IntsR w B v xs) :
    Calls Tryz.prog 143 #[v, .int .i64 h] w fun e w' => e = .returned (.bool (lineB xs h)) ∧ w' = w := by
  cases hl : lineB xs h with
  | true => exact line_yes v xs h w B hv hl
  | false => exact line_no v xs h w B hv hl

end Go.Proofs.YtijilhbdbeajjaaGreatDoor

namespace Go.Proofs.YtijilhbdbeajjaaGreatDoor

open Go.RowKit

theorem formB_name {x : LockD} (h : nameB x.name = false) : formB x = false := by simp [formB, h]

theorem formB_holder {x : LockD} (h : x.holder < 0 ∨ 9 < x.holder) : formB x = false := by
  have : decide (0 ≤ x.holder ∧ x.holder ≤ 9) = false := decide_eq_false (by omega)
  simp [formB, this]

theorem formB_line {x : LockD} (hn : nameB x.name = true) (h1 : 0 ≤ x.holder) (h2 : x.holder ≤ 9) : formB x = lineB x.line x.holder := by
  have : decide (0 ≤ x.holder ∧ x.holder ≤ 9) = true := decide_eq_true (by omega)
  simp [formB, hn, this]

set_option maxHeartbeats 800000 in
theorem inForm_any (nm : ByteArray) (hd fe : Int) (line : List Int) (lv : Value) (w : World) (B : Nat) (hl : IntsR w B lv line) (hB : B ≤ w.heap.size) (hs : nm.size ≤ 140737488351232) :
    Calls Tryz.prog 99 #[.agg #[.string nm, .int .i64 hd, .int .i64 fe, lv]] w fun e w' => e = .returned (.bool (formB ⟨nm, hd, fe, line⟩)) ∧ Below w.heap.size w w' := by
  have HL : Hid (∀ w', Below w.heap.size w w' → IntsR w' B lv line) := fun w' hb => hl.below hb hB
  obtain ⟨ao, cap, rfl, h1, h2, h3, h4⟩ := hl
  clear h4
  cases hn : nameB nm with
  | false =>
    rw [formB_name (x := ⟨nm, hd, fe, line⟩) hn]
    go_enter Tryz.func99, Tryz.ntmps99
    go_wp2_with fail
    refine (name_any nm _ (by omega)).mono ?_
    rintro e w1 ⟨rfl, rfl⟩
    rw [hn]
    go_wp2
    go_ret
    exact ⟨rfl, (Below.refl _ _).alloc (Nat.le_refl _) _⟩
  | true =>
    by_cases hr : hd < 0 ∨ 9 < hd
    · rw [formB_holder (x := ⟨nm, hd, fe, line⟩) hr]
      have h0 : ¬ hd = 0 := by omega
      have HC := fun w => isClient_no hd w (by omega)
      clear hr
      go_enter Tryz.func99, Tryz.ntmps99
      go_wp2_with fail
      refine (name_any nm _ (by omega)).mono ?_
      rintro e w1 ⟨rfl, rfl⟩
      rw [hn]
      go_wp2_with fail
      refine (HC _).mono ?_
      rintro e w1 ⟨rfl, rfl⟩
      go_wp2
      go_ret
      exact ⟨rfl, (Below.refl _ _).alloc (Nat.le_refl _) _⟩
    · rw [formB_line (x := ⟨nm, hd, fe, line⟩) hn (by simp; omega) (by simp; omega)]
      by_cases h0 : hd = 0
      · subst h0
        clear hr
        go_enter Tryz.func99, Tryz.ntmps99
        go_wp2_with fail
        refine (name_any nm _ (by omega)).mono ?_
        rintro e w1 ⟨rfl, rfl⟩
        rw [hn]
        go_wp2_with fail
        refine (line_any _ line 0 _ B (HL.out _ ((Below.refl _ _).alloc (Nat.le_refl _) _))).mono ?_
        rintro e w1 ⟨rfl, rfl⟩
        go_wp2
        go_ret
        exact ⟨rfl, (Below.refl _ _).alloc (Nat.le_refl _) _⟩
      · have h5 : 1 ≤ hd := by omega
        have h6 : hd ≤ 9 := by omega
        clear hr
        go_enter Tryz.func99, Tryz.ntmps99
        go_wp2_with fail
        refine (name_any nm _ (by omega)).mono ?_
        rintro e w1 ⟨rfl, rfl⟩
        rw [hn]
        go_wp2_with fail
        refine (isClient_yes hd _ h5 h6).mono ?_
        rintro e w1 ⟨rfl, rfl⟩
        go_wp2_with fail
        refine (line_any _ line hd _ B (HL.out _ ((Below.refl _ _).alloc (Nat.le_refl _) _))).mono ?_
        rintro e w1 ⟨rfl, rfl⟩
        go_wp2
        go_ret
        exact ⟨rfl, (Below.refl _ _).alloc (Nat.le_refl _) _⟩

end Go.Proofs.YtijilhbdbeajjaaGreatDoor

namespace Go.Proofs.YtijilhbdbeajjaaGreatDoor

open Go.RowKit

theorem drop_cons {α : Type} {l : List α} {k : Nat} {x : α} (h : l[k]? = some x) : l.drop k = x :: l.drop (k + 1) := by
  obtain ⟨hk, he⟩ := List.getElem?_eq_some_iff.1 h
  rw [List.drop_eq_getElem_cons hk, he]

theorem ret_i64 {a b : Int} (h : a = b) : Ending.returned (.int .i64 a) = .returned (.int .i64 b) := by rw [h]

theorem bcell {W w1 : World} (hb : Below W.heap.size W w1) : (∀ b o, b < W.heap.size → w1.cell? ⟨b, o, none⟩ = W.cell? ⟨b, o, none⟩) ∧ (∀ b o, b < W.heap.size → w1.frozen? ⟨b, o, none⟩ = W.frozen? ⟨b, o, none⟩) :=
  ⟨fun b o h => hb.cell (p := ⟨b, o, none⟩) h, fun b o h => hb.frozen (p := ⟨b, o, none⟩) h⟩

set_option maxHeartbeats 1600000 in
theorem check_any (v : Value) (ls : List LockD) (w : World) (B : Nat) (hv : LocksR w B v ls) (hB : B ≤ w.heap.size) :
    Calls Tryz.prog 62 #[v] w fun e w' => e = .returned (.int .i64 (checkL ls)) ∧ Below w.heap.size w w' := by
  obtain ⟨ao, cap, rfl, h1, h2, h3, h4⟩ := hv
  by_cases c1 : 5 < ls.length
  · have e1 : checkL ls = 1 := by simp [checkL, c1]
    rw [e1]
    clear e1
    go_enter Tryz.func62, Tryz.ntmps62
    go_wp2
    go_ret
    exact ⟨rfl, Below.refl _ _⟩
  · have e1 : checkL ls = checkFrom ⟨#[]⟩ ls := by simp [checkL, c1]
    rw [e1]
    clear e1
    go_enter Tryz.func62, Tryz.ntmps62
    go_wp2
    go_loopw [3, 11] (fun p i wr => ∃ (k : Nat) (nm : ByteArray), k ≤ ls.length ∧ i = .int .i64 k ∧ p = .string nm ∧ checkFrom nm (ls.drop k) = checkFrom ⟨#[]⟩ ls ∧ Below w.heap.size w wr)
      (fun _ i _ => ls.length - (intOf i).toNat)
    case atStart => exact ⟨0, ⟨#[]⟩, Nat.zero_le _, rfl, rfl, by simp, Below.refl _ _⟩
    case round =>
      obtain ⟨k, nm, hk, rfl, rfl, heq, hb⟩ := hrel
      have HE : Hid (checkFrom nm (ls.drop k) = checkFrom ⟨#[]⟩ ls) := heq
      clear heq
      by_cases hlt : k < ls.length
      · obtain ⟨b, off, rfl, hbB, hc⟩ := h4 (by omega)
        obtain ⟨x, hx⟩ : ∃ x, ls[k]? = some x := ⟨_, List.getElem?_eq_getElem hlt⟩
        have HX : Hid (ls.drop k = x :: ls.drop (k + 1)) := drop_cons hx
        obtain ⟨lv, c0, c1, c2, c3, hl, hs⟩ := (hc k x hx).below hbB hb hB
        have HL : Hid (∀ w', Below wr.heap.size wr w' → IntsR w' B lv x.line) := fun w' h => hl.below h (by have := hb.size; omega)
        obtain ⟨lo, lc, rfl, hl1, hl2, -⟩ := hl
        have hsz := hb.size
        clear hx hc h4
        obtain ⟨xn, xh, xf, xl⟩ := x
        simp only at c0 c1 c2 c3 hs HL hl1 hl2
        have HF : Hid (checkFrom nm (ls.drop k) = if formB ⟨xn, xh, xf, xl⟩ = false then 4 else if xf < 1 ∨ 1073741824 < xf then 2 else if leN xn nm = true then 14 else checkFrom xn (ls.drop (k + 1))) := by
          unfold Hid; rw [HX.out]; rfl
        clear HX
        go_wp2_with fail
        refine (inForm_any xn xh xf xl _ _ B (HL.out _ ((Below.refl _ _).alloc (Nat.le_refl _) _)) (by simp; omega) hs).mono ?_
        rintro e w1 ⟨rfl, hb1⟩
        have hb2 : Below w.heap.size w w1 := (hb.alloc hb.size _).trans (hb1.mono (by simp; omega))
        obtain ⟨hcc, hff⟩ := bcell hb1
        have hsz1 := hb1.size
        cases hform : formB ⟨xn, xh, xf, xl⟩ with
        | false =>
          rw [hform] at HF
          clear hb1
          go_wp2
          go_ret
          exact ⟨ret_i64 (by rw [← HE.out, HF.out]; rfl), hb2⟩
        | true =>
          rw [hform] at HF
          clear hb1
          by_cases f1 : xf < 1
          · go_wp2
            go_ret
            exact ⟨ret_i64 (by rw [← HE.out, HF.out]; simp [f1]), hb2⟩
          · by_cases f2 : 1073741824 < xf
            · go_wp2
              go_ret
              exact ⟨ret_i64 (by rw [← HE.out, HF.out]; simp [f2]), hb2⟩
            · have HF2 : Hid (checkFrom nm (ls.drop k) = if leN xn nm = true then 14 else checkFrom xn (ls.drop (k + 1))) := by
                unfold Hid; rw [HF.out, if_neg (by simp), if_neg (by omega)]
              clear HF
              cases hle : leN xn nm with
              | true =>
                rw [hle] at HF2
                have hle2 : (Op.bytesLess xn.toList nm.toList || xn.toList == nm.toList) = true := hle
                clear hle
                go_wp2
                go_ret
                exact ⟨ret_i64 (by rw [← HE.out, HF2.out]; rfl), hb2⟩
              | false =>
                rw [hle] at HF2
                have hle2 : (Op.bytesLess xn.toList nm.toList || xn.toList == nm.toList) = false := hle
                clear hle
                go_wp2
                go_roundw
                case rel => exact ⟨k + 1, xn, by omega, by go_num, rfl, by rw [← HE.out, HF2.out]; rfl, hb2⟩
                case measure => simp [intOf]; omega
      · go_wp2
        go_ret
        exact ⟨ret_i64 (by rw [← HE.out, List.drop_of_length_le (by omega)]; rfl), hb⟩

end Go.Proofs.YtijilhbdbeajjaaGreatDoor

namespace Go.Proofs.YtijilhbdbeajjaaGreatDoor

open Go.RowKit

/-- Is a text below another one? Are two one? -/
def ltP (a b : ByteArray) : Bool := Op.bytesLess a.toList b.toList

def eqP (a b : ByteArray) : Bool := a.toList == b.toList

def leP (a b : ByteArray) : Bool := Op.bytesLess a.toList b.toList || a.toList == b.toList

theorem less_irrefl : ∀ (x : List UInt8), Op.bytesLess x x = false
  | [] => rfl
  | a :: x => by simp [Op.bytesLess, less_irrefl x]

theorem less_trans : ∀ (x y z : List UInt8), Op.bytesLess x y = true → Op.bytesLess y z = true → Op.bytesLess x z = true
  | _, [], _, h, _ => by simp [Op.bytesLess] at h
  | _, _ :: _, [], _, h => by simp [Op.bytesLess] at h
  | [], _ :: _, _ :: _, _, _ => by simp [Op.bytesLess]
  | a :: x, b :: y, c :: z, h1, h2 => by
    simp only [Op.bytesLess, Bool.or_eq_true, decide_eq_true_eq, Bool.and_eq_true, beq_iff_eq] at h1 h2 ⊢
    rcases h1 with h1 | ⟨rfl, h1⟩
    · rcases h2 with h2 | ⟨rfl, h2⟩
      · exact Or.inl (UInt8.lt_trans h1 h2)
      · exact Or.inl h1
    · rcases h2 with h2 | ⟨rfl, h2⟩
      · exact Or.inl h2
      · exact Or.inr ⟨rfl, less_trans x y z h1 h2⟩

theorem less_total : ∀ (x y : List UInt8), Op.bytesLess x y = false → x ≠ y → Op.bytesLess y x = true
  | [], [], _, h => absurd rfl h
  | _ :: _, [], _, _ => by simp [Op.bytesLess]
  | [], _ :: _, h, _ => by simp [Op.bytesLess] at h
  | a :: x, b :: y, h, hne => by
    simp only [Op.bytesLess, Bool.or_eq_false_iff, decide_eq_false_iff_not, Bool.and_eq_false_iff, beq_eq_false_iff_ne] at h
    simp only [Op.bytesLess, Bool.or_eq_true, decide_eq_true_eq, Bool.and_eq_true, beq_iff_eq]
    obtain ⟨h1, h2⟩ := h
    by_cases e : a = b
    · subst e
      right
      refine ⟨rfl, less_total x y ?_ (fun e => hne (by rw [e]))⟩
      rcases h2 with h2 | h2
      · exact absurd rfl h2
      · exact h2
    · left
      rw [UInt8.lt_iff_toNat_lt] at h1 ⊢
      have : a.toNat ≠ b.toNat := fun h => e (UInt8.toNat_inj.1 h)
      omega

theorem toList_inj {a b : ByteArray} (h : a.toList = b.toList) : a = b := by
  rw [ByteArray.toList_eq, ByteArray.toList_eq] at h
  have : a.data = b.data := Array.toList_inj.1 (by simpa using h)
  cases a; cases b; simp_all

theorem eqP_iff {a b : ByteArray} : eqP a b = true ↔ a = b := by
  unfold eqP
  rw [beq_iff_eq]
  exact ⟨toList_inj, fun h => by rw [h]⟩

theorem eqP_false {a b : ByteArray} : eqP a b = false ↔ a ≠ b := by
  rw [← Bool.not_eq_true, eqP_iff]

theorem ltP_irrefl (a : ByteArray) : ltP a a = false := less_irrefl _

theorem ltP_trans {a b c : ByteArray} (h1 : ltP a b = true) (h2 : ltP b c = true) : ltP a c = true := less_trans _ _ _ h1 h2

theorem ltP_total {a b : ByteArray} (h : ltP a b = false) (hne : a ≠ b) : ltP b a = true := less_total _ _ h (fun e => hne (toList_inj e))

theorem ltP_ne {a b : ByteArray} (h : ltP a b = true) : a ≠ b := by rintro rfl; rw [ltP_irrefl] at h; cases h

theorem leP_false {a b : ByteArray} (h : leP a b = false) : ltP b a = true := by
  unfold leP at h
  rw [Bool.or_eq_false_iff] at h
  exact ltP_total h.1 (fun e => by rw [e] at h; simp at h)

theorem leP_of_lt {a b : ByteArray} (h : ltP b a = true) : leP a b = false := by
  unfold leP
  rw [Bool.or_eq_false_iff]
  refine ⟨?_, ?_⟩
  · cases hx : Op.bytesLess a.toList b.toList with
    | false => rfl
    | true =>
      have := ltP_trans h hx
      rw [ltP_irrefl] at this
      cases this
  · have := ltP_ne h
    cases hx : (a.toList == b.toList) with
    | false => rfl
    | true => exact absurd (toList_inj (beq_iff_eq.1 hx)).symm this

/-- Pairs one by one, the name of the one ahead given. -/
def checkPF : ByteArray → List PairD → Int
  | _, [] => 0
  | p, x :: t => if nameB x.name = false then 4 else if 12 < x.value.size then 1 else if x.version < 1 ∨ 1073741824 < x.version then 2 else if leP x.name p = true then 14 else checkPF x.name t

/-- What is wrong with pairs; 0: nothing. -/
def checkP (ps : List PairD) : Int := if 5 < ps.length then 1 else checkPF ⟨#[]⟩ ps

/-- What Set refuses. -/
def refuseP (ps : List PairD) (nm val : ByteArray) : Int := if checkP ps ≠ 0 then checkP ps else if nameB nm = false then 4 else if 12 < val.size then 1 else 0

theorem checkPF_each {p : ByteArray} {ps : List PairD} (h : checkPF p ps = 0) :
    (∀ x ∈ ps, nameB x.name = true ∧ x.value.size ≤ 12 ∧ 1 ≤ x.version ∧ x.version ≤ 1073741824 ∧ ltP p x.name = true) ∧ ∀ (i j : Nat) (x y : PairD), i < j → ps[i]? = some x → ps[j]? = some y → ltP x.name y.name = true := by
  induction ps generalizing p with
  | nil => exact ⟨fun x hx => (by cases hx), fun i j x y _ hx => (by simp at hx)⟩
  | cons a t ih =>
    unfold checkPF at h
    split at h
    · cases h
    · rename_i h1
      split at h
      · cases h
      · rename_i h2
        split at h
        · cases h
        · rename_i h3
          split at h
          · cases h
          · rename_i h4
            obtain ⟨e1, e2⟩ := ih h
            have h4' : ltP p a.name = true := leP_false (by simpa using h4)
            refine ⟨fun x hx => ?_, fun i j x y hij hx hy => ?_⟩
            · rcases List.mem_cons.1 hx with rfl | hx
              · exact ⟨by simpa using h1, by omega, by omega, by omega, h4'⟩
              · obtain ⟨g1, g2, g3, g4, g5⟩ := e1 x hx
                exact ⟨g1, g2, g3, g4, ltP_trans h4' g5⟩
            · cases j with
              | zero => omega
              | succ j =>
                rw [List.getElem?_cons_succ] at hy
                cases i with
                | zero =>
                  rw [List.getElem?_cons_zero] at hx
                  cases hx
                  exact (e1 y (List.mem_of_getElem? hy)).2.2.2.2
                | succ i =>
                  rw [List.getElem?_cons_succ] at hx
                  exact e2 i j x y (by omega) hx hy

theorem checkPF_of {p : ByteArray} {ps : List PairD} (h1 : ∀ x ∈ ps, nameB x.name = true ∧ x.value.size ≤ 12 ∧ 1 ≤ x.version ∧ x.version ≤ 1073741824 ∧ ltP p x.name = true)
    (h2 : ∀ (i j : Nat) (x y : PairD), i < j → ps[i]? = some x → ps[j]? = some y → ltP x.name y.name = true) : checkPF p ps = 0 := by
  induction ps generalizing p with
  | nil => rfl
  | cons a t ih =>
    obtain ⟨g1, g2, g3, g4, g5⟩ := h1 a (by simp)
    unfold checkPF
    rw [if_neg (by rw [g1]; simp), if_neg (by omega), if_neg (by omega), if_neg (by rw [leP_of_lt g5]; simp)]
    refine ih (fun x hx => ?_) (fun i j x y hij hx hy => h2 (i + 1) (j + 1) x y (by omega) hx hy)
    obtain ⟨k1, k2, k3, k4, _⟩ := h1 x (by simp [hx])
    obtain ⟨j, hj⟩ := List.mem_iff_getElem?.1 hx
    exact ⟨k1, k2, k3, k4, h2 0 (j + 1) a x (by omega) rfl hj⟩

theorem ltP_empty {a : ByteArray} (h : nameB a = true) : ltP ⟨#[]⟩ a = true := by
  obtain ⟨h1, _, _⟩ := nameB_yes h
  have e : (⟨#[]⟩ : ByteArray).toList = [] := by rw [ByteArray.toList_eq]
  unfold ltP
  rw [e]
  cases hl : a.toList with
  | nil =>
    rw [ByteArray.toList_eq] at hl
    have := congrArg List.length hl
    simp at this
    have h2 : a.size = 0 := by rw [← ByteArray.size_data]; simpa using this
    omega
  | cons c t => simp [Op.bytesLess]

theorem leP_empty {a : ByteArray} (h : nameB a = true) : leP a ⟨#[]⟩ = false := leP_of_lt (ltP_empty h)

/-- Pairs that may be. -/
structure GoodP (ps : List PairD) : Prop where
  len : ps.length ≤ 5
  each : ∀ x ∈ ps, nameB x.name = true ∧ x.value.size ≤ 12 ∧ 1 ≤ x.version ∧ x.version ≤ 1073741824
  order : ∀ (i j : Nat) (x y : PairD), i < j → ps[i]? = some x → ps[j]? = some y → ltP x.name y.name = true

theorem checkP_good {ps : List PairD} (h : checkP ps = 0) : GoodP ps := by
  unfold checkP at h
  split at h
  · cases h
  · obtain ⟨h1, h2⟩ := checkPF_each h
    exact ⟨by omega, fun x hx => by obtain ⟨a, b, c, d, _⟩ := h1 x hx; exact ⟨a, b, c, d⟩, h2⟩

theorem GoodP.check {ps : List PairD} (h : GoodP ps) : checkP ps = 0 := by
  unfold checkP
  rw [if_neg (by have := h.len; omega)]
  exact checkPF_of (fun x hx => by obtain ⟨a, b, c, d⟩ := h.each x hx; exact ⟨a, b, c, d, ltP_empty a⟩) h.order

/-- The place of a name: the first that is not below it. -/
def placeP (ps : List PairD) (nm : ByteArray) : Nat := ps.findIdx fun x => !ltP x.name nm

/-- Is the name there? -/
def thereP (ps : List PairD) (nm : ByteArray) : Bool :=
  match ps[placeP ps nm]? with
  | some x => eqP x.name nm
  | none => false

theorem placeP_le (ps : List PairD) (nm : ByteArray) : placeP ps nm ≤ ps.length := List.findIdx_le_length

theorem placeP_before {ps : List PairD} {nm : ByteArray} {j : Nat} {x : PairD} (hj : j < placeP ps nm) (hx : ps[j]? = some x) : ltP x.name nm = true := by
  have hl : j < ps.length := (List.getElem?_eq_some_iff.1 hx).1
  have := List.not_of_lt_findIdx hj
  rw [(List.getElem?_eq_some_iff.1 hx).2] at this
  simpa using this

theorem placeP_at {ps : List PairD} {nm : ByteArray} {x : PairD} (hx : ps[placeP ps nm]? = some x) : ltP x.name nm = false := by
  obtain ⟨hl, he⟩ := List.getElem?_eq_some_iff.1 hx
  have h : (!ltP (ps[placeP ps nm]'hl).name nm) = true := List.findIdx_getElem (w := hl)
  rw [he] at h
  simpa using h

theorem thereP_yes {ps : List PairD} {nm : ByteArray} (h : thereP ps nm = true) : ∃ x, ps[placeP ps nm]? = some x ∧ x.name = nm := by
  unfold thereP at h
  split at h
  · rename_i x hx
    exact ⟨x, hx, eqP_iff.1 h⟩
  · cases h

/-- In order: a name that is not at its place is nowhere. -/
theorem thereP_no {ps : List PairD} {nm : ByteArray} (hg : GoodP ps) (h : thereP ps nm = false) (j : Nat) (y : PairD) (hy : ps[j]? = some y) : y.name ≠ nm := by
  by_cases a : j < placeP ps nm
  · exact ltP_ne (placeP_before a hy)
  · have hjl : j < ps.length := (List.getElem?_eq_some_iff.1 hy).1
    have hpl : placeP ps nm < ps.length := by omega
    have hx : ps[placeP ps nm]? = some ps[placeP ps nm] := List.getElem?_eq_getElem hpl
    have hne : ps[placeP ps nm].name ≠ nm := by
      unfold thereP at h
      rw [hx] at h
      exact eqP_false.1 h
    have hgt : ltP nm ps[placeP ps nm].name = true := ltP_total (placeP_at hx) hne
    by_cases b : j = placeP ps nm
    · subst b
      rw [hx] at hy
      cases hy
      exact hne
    · have := hg.order _ j _ y (by omega) hx hy
      exact (ltP_ne (ltP_trans hgt this)).symm

/-- What Set answers: the pairs, the reply's Code and N. -/
def setP (ps : List PairD) (nm val : ByteArray) : List PairD × Int × Int :=
  match ps[placeP ps nm]? with
  | some x =>
    if eqP x.name nm = true then
      if x.version = 1073741824 then (ps, 8, 0) else (ps.set (placeP ps nm) ⟨x.name, val, x.version + 1⟩, 0, x.version + 1)
    else if ps.length = 5 then (ps, 8, 0) else (ps.take (placeP ps nm) ++ ⟨nm, val, 1⟩ :: ps.drop (placeP ps nm), 0, 1)
  | none => if ps.length = 5 then (ps, 8, 0) else (ps.take (placeP ps nm) ++ ⟨nm, val, 1⟩ :: ps.drop (placeP ps nm), 0, 1)

theorem setP_there {ps : List PairD} {nm val : ByteArray} {x : PairD} (hx : ps[placeP ps nm]? = some x) (he : x.name = nm) (hv : ¬ x.version = 1073741824) : setP ps nm val = (ps.set (placeP ps nm) ⟨x.name, val, x.version + 1⟩, 0, x.version + 1) := by
  unfold setP
  rw [hx]
  simp only
  rw [if_pos (eqP_iff.2 he), if_neg hv]

theorem setP_full {ps : List PairD} {nm val : ByteArray} {x : PairD} (hx : ps[placeP ps nm]? = some x) (he : x.name = nm) (hv : x.version = 1073741824) : setP ps nm val = (ps, 8, 0) := by
  unfold setP
  rw [hx]
  simp only
  rw [if_pos (eqP_iff.2 he), if_pos hv]

theorem setP_new {ps : List PairD} {nm val : ByteArray} (h : thereP ps nm = false) (hl : ¬ ps.length = 5) : setP ps nm val = (ps.take (placeP ps nm) ++ ⟨nm, val, 1⟩ :: ps.drop (placeP ps nm), 0, 1) := by
  unfold setP
  unfold thereP at h
  split
  · rename_i x hx
    rw [hx] at h
    simp only at h
    rw [if_neg (by rw [h]; simp), if_neg hl]
  · rw [if_neg hl]

theorem setP_noroom {ps : List PairD} {nm val : ByteArray} (h : thereP ps nm = false) (hl : ps.length = 5) : setP ps nm val = (ps, 8, 0) := by
  unfold setP
  unfold thereP at h
  split
  · rename_i x hx
    rw [hx] at h
    simp only at h
    rw [if_neg (by rw [h]; simp), if_pos hl]
  · rw [if_pos hl]

/-- What Get answers: the reply. -/
def getP (ps : List PairD) (nm : ByteArray) : Int × Int × ByteArray :=
  match ps[placeP ps nm]? with
  | some x => if eqP x.name nm = true then (0, x.version, x.value) else (6, 0, ⟨#[]⟩)
  | none => (6, 0, ⟨#[]⟩)

theorem getP_there {ps : List PairD} {nm : ByteArray} {x : PairD} (hx : ps[placeP ps nm]? = some x) (he : x.name = nm) : getP ps nm = (0, x.version, x.value) := by
  unfold getP
  rw [hx]
  simp only
  rw [if_pos (eqP_iff.2 he)]

theorem getP_none {ps : List PairD} {nm : ByteArray} (h : thereP ps nm = false) : getP ps nm = (6, 0, ⟨#[]⟩) := by
  unfold getP
  unfold thereP at h
  split
  · rename_i x hx
    rw [hx] at h
    simp only at h
    rw [if_neg (by rw [h]; simp)]
  · rfl

end Go.Proofs.YtijilhbdbeajjaaGreatDoor

namespace Go.Proofs.YtijilhbdbeajjaaGreatDoor

open Go.RowKit

theorem pdrop_cons {α : Type} {l : List α} {k : Nat} {x : α} (h : l[k]? = some x) : l.drop k = x :: l.drop (k + 1) := by
  obtain ⟨hk, he⟩ := List.getElem?_eq_some_iff.1 h
  rw [List.drop_eq_getElem_cons hk, he]

theorem pret_i64 {a b : Int} (h : a = b) : Ending.returned (.int .i64 a) = .returned (.int .i64 b) := by rw [h]

set_option maxRecDepth 100000 in
set_option maxHeartbeats 1600000 in
theorem pairCheck_any (v : Value) (ps : List PairD) (w : World) (B : Nat) (hv : PairsR w B v ps) (hB : B ≤ w.heap.size) :
    Calls Tryz.prog 72 #[v] w fun e w' => e = .returned (.int .i64 (checkP ps)) ∧ Below w.heap.size w w' := by
  obtain ⟨ao, cap, rfl, h1, h2, h3, h4⟩ := hv
  by_cases c1 : 5 < ps.length
  · have e1 : checkP ps = 1 := by simp [checkP, c1]
    rw [e1]
    clear e1
    go_enter Tryz.func72, Tryz.ntmps72
    go_wp2
    go_ret
    exact ⟨rfl, Below.refl _ _⟩
  · have e1 : checkP ps = checkPF ⟨#[]⟩ ps := by simp [checkP, c1]
    rw [e1]
    clear e1
    go_enter Tryz.func72, Tryz.ntmps72
    go_wp2
    go_loopw [3, 11] (fun p i wr => ∃ (k : Nat) (nm : ByteArray), k ≤ ps.length ∧ i = .int .i64 k ∧ p = .string nm ∧ checkPF nm (ps.drop k) = checkPF ⟨#[]⟩ ps ∧ Below w.heap.size w wr)
      (fun _ i _ => ps.length - (intOf i).toNat)
    case atStart => exact ⟨0, ⟨#[]⟩, Nat.zero_le _, rfl, rfl, by simp, Below.refl _ _⟩
    case round =>
      obtain ⟨k, nm, hk, rfl, rfl, heq, hb⟩ := hrel
      have HE : Hid (checkPF nm (ps.drop k) = checkPF ⟨#[]⟩ ps) := heq
      clear heq
      by_cases hlt : k < ps.length
      · obtain ⟨b, off, rfl, hbB, hc⟩ := h4 (by omega)
        obtain ⟨x, hx⟩ : ∃ x, ps[k]? = some x := ⟨_, List.getElem?_eq_getElem hlt⟩
        have HX : Hid (ps.drop k = x :: ps.drop (k + 1)) := pdrop_cons hx
        obtain ⟨c0, c1, c2, hs0, hs1, -⟩ := (hc k x hx).below (by omega) hb
        have hsz := hb.size
        clear hx hc h4
        obtain ⟨xn, xv, xe⟩ := x
        simp only at c0 c1 c2 hs0 hs1
        have HF : Hid (checkPF nm (ps.drop k) = if nameB xn = false then 4 else if 12 < xv.size then 1 else if xe < 1 ∨ 1073741824 < xe then 2 else if leP xn nm = true then 14 else checkPF xn (ps.drop (k + 1))) := by
          unfold Hid; rw [HX.out]; rfl
        clear HX
        go_wp2_with fail
        refine (name_any xn _ (by omega)).mono ?_
        rintro e w1 ⟨rfl, rfl⟩
        have HB := phid (hb.alloc hb.size (.cells #[.string xn, .string xv, .int .i64 xe] 89))
        clear hb
        cases hform : nameB xn with
        | false =>
          rw [hform] at HF
          go_wp2
          go_ret
          exact ⟨pret_i64 (by rw [← HE.out, HF.out]; rfl), HB.out⟩
        | true =>
          rw [hform] at HF
          by_cases f0 : 12 < xv.size
          · go_wp2
            go_ret
            exact ⟨pret_i64 (by rw [← HE.out, HF.out]; simp [f0]), HB.out⟩
          · by_cases f1 : xe < 1
            · go_wp2
              go_ret
              exact ⟨pret_i64 (by rw [← HE.out, HF.out]; simp [f0, f1]), HB.out⟩
            · by_cases f2 : 1073741824 < xe
              · go_wp2
                go_ret
                exact ⟨pret_i64 (by rw [← HE.out, HF.out]; simp [f0, f2]), HB.out⟩
              · have HF2 : Hid (checkPF nm (ps.drop k) = if leP xn nm = true then 14 else checkPF xn (ps.drop (k + 1))) := by
                  unfold Hid; rw [HF.out, if_neg (by simp), if_neg f0, if_neg (by omega)]
                clear HF
                cases hle : leP xn nm with
                | true =>
                  rw [hle] at HF2
                  have hle2 : (Op.bytesLess xn.toList nm.toList || xn.toList == nm.toList) = true := hle
                  clear hle
                  go_wp2
                  go_ret
                  exact ⟨pret_i64 (by rw [← HE.out, HF2.out]; rfl), HB.out⟩
                | false =>
                  rw [hle] at HF2
                  have hle2 : (Op.bytesLess xn.toList nm.toList || xn.toList == nm.toList) = false := hle
                  clear hle
                  go_wp2
                  go_roundw
                  case rel => exact ⟨k + 1, xn, by omega, by go_num, rfl, by rw [← HE.out, HF2.out]; rfl, HB.out⟩
                  case measure => simp [intOf]; omega
      · go_wp2
        go_ret
        exact ⟨pret_i64 (by rw [← HE.out, List.drop_of_length_le (by omega)]; rfl), hb⟩

end Go.Proofs.YtijilhbdbeajjaaGreatDoor

namespace Go.Proofs.YtijilhbdbeajjaaGreatDoor

open Go.RowKit

theorem sret_bool {a b : Bool} (h : a = b) : Ending.returned (.bool a) = .returned (.bool b) := by rw [h]

theorem swithin_yes (n a b : Int) (w : World) (h1 : a ≤ n) (h2 : n ≤ b) :
    Calls Tryz.prog 54 #[.int .i64 n, .int .i64 a, .int .i64 b] w fun e w' => e = .returned (.bool true) ∧ w' = w := by
  go_enter Tryz.func54, Tryz.ntmps54
  go_wp2
  go_ret
  exact ⟨rfl, rfl⟩

theorem swithin_no (n a b : Int) (w : World) (h : n < a ∨ b < n) :
    Calls Tryz.prog 54 #[.int .i64 n, .int .i64 a, .int .i64 b] w fun e w' => e = .returned (.bool false) ∧ w' = w := by
  by_cases h1 : a ≤ n
  · have h2 : ¬ n ≤ b := by omega
    go_enter Tryz.func54, Tryz.ntmps54
    go_wp2
    go_ret
    exact ⟨rfl, rfl⟩
  · go_enter Tryz.func54, Tryz.ntmps54
    go_wp2
    go_ret
    exact ⟨rfl, rfl⟩

theorem sclient_yes (n : Int) (w : World) (h1 : 1 ≤ n) (h2 : n ≤ 9) :
    Calls Tryz.prog 130 #[.int .i64 n] w fun e w' => e = .returned (.bool true) ∧ w' = w := by
  go_enter Tryz.func130, Tryz.ntmps130
  go_wp2_with fail
  refine (swithin_yes n 1 9 _ h1 h2).mono ?_
  rintro e w' ⟨rfl, hw⟩
  subst hw
  go_wp2
  go_ret
  exact ⟨rfl, rfl⟩

theorem sclient_no (n : Int) (w : World) (h : n < 1 ∨ 9 < n) :
    Calls Tryz.prog 130 #[.int .i64 n] w fun e w' => e = .returned (.bool false) ∧ w' = w := by
  go_enter Tryz.func130, Tryz.ntmps130
  go_wp2_with fail
  refine (swithin_no n 1 9 _ h).mono ?_
  rintro e w' ⟨rfl, hw⟩
  subst hw
  go_wp2
  go_ret
  exact ⟨rfl, rfl⟩

set_option maxHeartbeats 800000 in
theorem inRange_yes (c d a t i : Int) (lv : Value) (w : World) (h : (1 ≤ c ∧ c ≤ 9) ∧ (0 ≤ a ∧ a ≤ 1048576) ∧ (1 ≤ d ∧ d ≤ i) ∧ d ≤ t ∧ t ≤ i) :
    Calls Tryz.prog 82 #[.agg #[.int .i64 c, .int .i64 d, .int .i64 a, .int .i64 t, lv], .int .i64 i] w fun e w' => e = .returned (.bool true) ∧ Below w.heap.size w w' := by
  obtain ⟨⟨h1, h2⟩, ⟨h3, h4⟩, ⟨h5, h6⟩, h7, h8⟩ := h
  go_enter Tryz.func82, Tryz.ntmps82
  go_wp2_with fail
  refine (sclient_yes c _ h1 h2).mono ?_
  rintro e w1 ⟨rfl, hw⟩
  subst hw
  go_wp2_with fail
  refine (swithin_yes a 0 1048576 _ h3 h4).mono ?_
  rintro e w1 ⟨rfl, hw⟩
  subst hw
  go_wp2_with fail
  refine (swithin_yes d 1 i _ h5 h6).mono ?_
  rintro e w1 ⟨rfl, hw⟩
  subst hw
  go_wp2_with fail
  refine (swithin_yes t d i _ h7 h8).mono ?_
  rintro e w1 ⟨rfl, hw⟩
  subst hw
  go_wp2
  go_ret
  exact ⟨rfl, (Below.refl _ _).alloc (Nat.le_refl _) _⟩

set_option maxHeartbeats 1600000 in
theorem inRange_no (c d a t i : Int) (lv : Value) (w : World) (h : ¬ ((1 ≤ c ∧ c ≤ 9) ∧ (0 ≤ a ∧ a ≤ 1048576) ∧ (1 ≤ d ∧ d ≤ i) ∧ d ≤ t ∧ t ≤ i)) :
    Calls Tryz.prog 82 #[.agg #[.int .i64 c, .int .i64 d, .int .i64 a, .int .i64 t, lv], .int .i64 i] w fun e w' => e = .returned (.bool false) ∧ Below w.heap.size w w' := by
  by_cases k1 : 1 ≤ c ∧ c ≤ 9
  · obtain ⟨h1, h2⟩ := k1
    by_cases k2 : 0 ≤ a ∧ a ≤ 1048576
    · obtain ⟨h3, h4⟩ := k2
      by_cases k3 : 1 ≤ d ∧ d ≤ i
      · obtain ⟨h5, h6⟩ := k3
        have h7 : t < d ∨ i < t := by omega
        clear h
        go_enter Tryz.func82, Tryz.ntmps82
        go_wp2_with fail
        refine (sclient_yes c _ h1 h2).mono ?_
        rintro e w1 ⟨rfl, hw⟩
        subst hw
        go_wp2_with fail
        refine (swithin_yes a 0 1048576 _ h3 h4).mono ?_
        rintro e w1 ⟨rfl, hw⟩
        subst hw
        go_wp2_with fail
        refine (swithin_yes d 1 i _ h5 h6).mono ?_
        rintro e w1 ⟨rfl, hw⟩
        subst hw
        go_wp2_with fail
        refine (swithin_no t d i _ h7).mono ?_
        rintro e w1 ⟨rfl, hw⟩
        subst hw
        go_wp2
        go_ret
        exact ⟨rfl, (Below.refl _ _).alloc (Nat.le_refl _) _⟩
      · have h5 : d < 1 ∨ i < d := by omega
        clear h k3
        go_enter Tryz.func82, Tryz.ntmps82
        go_wp2_with fail
        refine (sclient_yes c _ h1 h2).mono ?_
        rintro e w1 ⟨rfl, hw⟩
        subst hw
        go_wp2_with fail
        refine (swithin_yes a 0 1048576 _ h3 h4).mono ?_
        rintro e w1 ⟨rfl, hw⟩
        subst hw
        go_wp2_with fail
        refine (swithin_no d 1 i _ h5).mono ?_
        rintro e w1 ⟨rfl, hw⟩
        subst hw
        go_wp2
        go_ret
        exact ⟨rfl, (Below.refl _ _).alloc (Nat.le_refl _) _⟩
    · have h3 : a < 0 ∨ 1048576 < a := by omega
      clear h k2
      go_enter Tryz.func82, Tryz.ntmps82
      go_wp2_with fail
      refine (sclient_yes c _ h1 h2).mono ?_
      rintro e w1 ⟨rfl, hw⟩
      subst hw
      go_wp2_with fail
      refine (swithin_no a 0 1048576 _ h3).mono ?_
      rintro e w1 ⟨rfl, hw⟩
      subst hw
      go_wp2
      go_ret
      exact ⟨rfl, (Below.refl _ _).alloc (Nat.le_refl _) _⟩
  · have h1 : c < 1 ∨ 9 < c := by omega
    clear h k1
    go_enter Tryz.func82, Tryz.ntmps82
    go_wp2_with fail
    refine (sclient_no c _ h1).mono ?_
    rintro e w1 ⟨rfl, hw⟩
    subst hw
    go_wp2
    go_ret
    exact ⟨rfl, (Below.refl _ _).alloc (Nat.le_refl _) _⟩

set_option maxHeartbeats 800000 in
theorem mayBe_yes (c n : Int) (s : ByteArray) (w : World) (h : replyB c n s.size = true) :
    Calls Tryz.prog 131 #[.agg #[.int .i64 c, .int .i64 n, .string s]] w fun e w' => e = .returned (.bool true) ∧ Below w.heap.size w w' := by
  obtain ⟨h1, h2, h3, h4, h5⟩ := replyB_iff.1 h
  clear h
  go_enter Tryz.func131, Tryz.ntmps131
  go_wp2_with (go_at_call 54; refine (swithin_yes _ _ _ _ h3 h4).mono ?_; rintro e w' ⟨rfl, hw⟩; subst hw)
  go_ret
  exact ⟨sret_bool (a := decide ((s.size : Int) ≤ 12)) (by simp; omega), (Below.refl _ _).alloc (Nat.le_refl _) _⟩

set_option maxHeartbeats 1600000 in
theorem mayBe_no (c n : Int) (s : ByteArray) (w : World) (hs : s.size ≤ 140737488351232) (h : replyB c n s.size = false) :
    Calls Tryz.prog 131 #[.agg #[.int .i64 c, .int .i64 n, .string s]] w fun e w' => e = .returned (.bool false) ∧ Below w.heap.size w w' := by
  have h' : ¬ (0 ≤ c ∧ c ≤ 15 ∧ 0 ≤ n ∧ n ≤ 1073741824 ∧ s.size ≤ 12) := fun k => by rw [replyB_iff.2 k] at h; cases h
  clear h
  by_cases h1 : 0 ≤ c
  · by_cases h2 : c ≤ 15
    · by_cases k : 0 ≤ n ∧ n ≤ 1073741824
      · obtain ⟨h3, h4⟩ := k
        have h5 : ¬ s.size ≤ 12 := by omega
        clear h'
        go_enter Tryz.func131, Tryz.ntmps131
        go_wp2_with (go_at_call 54; refine (swithin_yes _ _ _ _ h3 h4).mono ?_; rintro e w' ⟨rfl, hw⟩; subst hw)
        go_ret
        exact ⟨sret_bool (a := decide ((s.size : Int) ≤ 12)) (by simp; omega), (Below.refl _ _).alloc (Nat.le_refl _) _⟩
      · have h3 : n < 0 ∨ 1073741824 < n := by omega
        clear h' k
        go_enter Tryz.func131, Tryz.ntmps131
        go_wp2_with (go_at_call 54; refine (swithin_no _ _ _ _ h3).mono ?_; rintro e w' ⟨rfl, hw⟩; subst hw)
        go_ret
        exact ⟨rfl, (Below.refl _ _).alloc (Nat.le_refl _) _⟩
    · clear h'
      go_enter Tryz.func131, Tryz.ntmps131
      go_wp2
      go_ret
      exact ⟨rfl, (Below.refl _ _).alloc (Nat.le_refl _) _⟩
  · clear h'
    go_enter Tryz.func131, Tryz.ntmps131
    go_wp2
    go_ret
    exact ⟨rfl, (Below.refl _ _).alloc (Nat.le_refl _) _⟩

end Go.Proofs.YtijilhbdbeajjaaGreatDoor

namespace Go.Proofs.YtijilhbdbeajjaaGreatDoor

open Go.RowKit

theorem kdrop {ks : List KeptD} {k : Nat} {y : KeptD} (h : ks[k]? = some y) : ks.drop k = y :: ks.drop (k + 1) := by
  obtain ⟨hi, he⟩ := List.getElem?_eq_some_iff.1 h
  rw [← he, ← List.drop_eq_getElem_cons hi]

set_option maxRecDepth 100000 in
set_option maxHeartbeats 1600000 in
theorem sinForm_any (c d a t : Int) (lv : Value) (ks : List KeptD) (w : World) (B : Nat) (hv : KeptsR w B lv ks) (hB : B ≤ w.heap.size) (ha0 : 0 ≤ a) (ha1 : a ≤ 1048576) :
    Calls Tryz.prog 83 #[.agg #[.int .i64 c, .int .i64 d, .int .i64 a, .int .i64 t, lv]] w fun e w' => e = .returned (.bool (formFrom a a ks)) ∧ Below w.heap.size w w' := by
  obtain ⟨ao, cap, rfl, h1, h2, h3, h4⟩ := hv
  obtain ⟨W1, hW1⟩ : ∃ W1, W1 = w.alloc (.cells #[.int .i64 c, .int .i64 d, .int .i64 a, .int .i64 t, .slice ao ks.length cap] 121) := ⟨_, rfl⟩
  have hb0 : Below w.heap.size w W1 := by rw [hW1]; exact (Below.refl _ _).alloc (Nat.le_refl _) _
  have hg0 : W1.heap[w.heap.size]? = some (.cells #[.int .i64 c, .int .i64 d, .int .i64 a, .int .i64 t, .slice ao ks.length cap] 121 (0, 0)) := by rw [hW1]; exact heap_alloc_new w _
  have hz0 : W1.heap.size = w.heap.size + 1 := by rw [hW1]; simp
  have HB0 := ghid hb0
  have HG0 := ghid hg0
  go_enter Tryz.func83, Tryz.ntmps83
  go_wp2
  rw [← hW1]
  clear hW1 hb0 hg0
  go_loopw [3, 11] (fun s i wr => ∃ (k : Nat) (hd : Int), k ≤ ks.length ∧ s = .int .i64 hd ∧ i = .int .i64 k ∧ Hid (formFrom a hd (ks.drop k) = formFrom a a ks) ∧ a ≤ hd ∧ hd ≤ a + 4 ∧ Below (w.heap.size + 1) W1 wr) (fun _ i _ => ks.length - (intOf i).toNat)
  case atStart => exact ⟨0, a, Nat.zero_le _, rfl, rfl, by simp [Hid], Int.le_refl _, by omega, Below.refl _ _⟩
  case round =>
    obtain ⟨k, hd, hk, rfl, rfl, HF, hd1, hd2, hb⟩ := hrel
    have hsz : w.heap.size + 1 ≤ wr.heap.size := by have := hb.size; omega
    have hba : Below w.heap.size w wr := HB0.out.trans (hb.mono (by omega))
    have HBA := ghid hba
    by_cases hlt : k < ks.length
    · obtain ⟨b, off, rfl, hbB, hc⟩ := h4 (by omega)
      obtain ⟨y, hy⟩ : ∃ y, ks[k]? = some y := ⟨_, List.getElem?_eq_getElem hlt⟩
      obtain ⟨c0, c1, c2, c3, hs, -⟩ := (hc k y hy).below (by omega) hba
      have xa : wr.cell? ⟨w.heap.size, 2, none⟩ = some (.int .i64 a) := cell_of_row wr w.heap.size 2 _ _ _ ((hb.block _ (by omega)).trans HG0.out)
      have HD : Hid (formFrom a hd (y :: ks.drop (k + 1)) = formFrom a a ks) := by unfold Hid; rw [← kdrop hy]; exact HF.out
      have HB := ghid hb
      clear hy hc h4 HF hb hba
      have hbr : b < wr.heap.size := by omega
      have hwr : w.heap.size < wr.heap.size := by omega
      obtain ⟨ys, yc, yn, yt⟩ := y
      simp only at c0 c1 c2 c3 hs
      by_cases q1 : hd + 1 ≤ ys ∧ ys ≤ a + 4
      · obtain ⟨q2, q3⟩ := q1
        by_cases q4 : replyB yc yn yt.size = true
        · have HN : Hid (formFrom a ys (ks.drop (k + 1)) = formFrom a a ks) := by
            have := HD.out
            unfold Hid
            rw [formFrom_cons] at this
            simp only [keptB, q4, decide_eq_true q2, decide_eq_true q3, Bool.true_and] at this
            exact this
          have Q4 := ghid q4
          clear q4 HD
          go_wp2_with fail
          refine (swithin_yes ys (hd + 1) (a + 4) _ q2 q3).mono ?_
          rintro e w1 ⟨rfl, hw⟩
          subst hw
          go_wp2_with fail
          refine (mayBe_yes yc yn yt _ Q4.out).mono ?_
          rintro e w1 ⟨rfl, hb1⟩
          obtain ⟨hc1, hf1⟩ := gcell hb1
          have hz1 : wr.heap.size < w1.heap.size := by have := hb1.size; simp at this; omega
          go_wp2
          go_roundw
          case rel => exact ⟨k + 1, ys, by omega, rfl, by go_num, HN, by omega, by omega, (HB.out.trans (((Below.refl _ _).alloc (by omega) _).trans (hb1.mono (by simp; omega))))⟩
          case measure => simp [intOf]; omega
        · have q5 : replyB yc yn yt.size = false := by simpa using q4
          have HN : Hid (formFrom a a ks = false) := by
            have := HD.out
            unfold Hid
            rw [formFrom_cons] at this
            simp only [keptB, q5, decide_eq_true q2, decide_eq_true q3, Bool.true_and, Bool.false_and] at this
            exact this.symm
          have Q5 := ghid q5
          clear q4 q5 HD
          go_wp2_with fail
          refine (swithin_yes ys (hd + 1) (a + 4) _ q2 q3).mono ?_
          rintro e w1 ⟨rfl, hw⟩
          subst hw
          go_wp2_with fail
          refine (mayBe_no yc yn yt _ hs Q5.out).mono ?_
          rintro e w1 ⟨rfl, hb1⟩
          go_wp2
          go_ret
          exact ⟨by rw [HN.out]; rfl, HBA.out.trans (((Below.refl _ _).alloc (by omega) _).trans (hb1.mono (by simp; omega)))⟩
      · have HN : Hid (formFrom a a ks = false) := by
          have := HD.out
          unfold Hid
          rw [formFrom_cons] at this
          by_cases q2 : hd + 1 ≤ ys
          · have q3 : ¬ ys ≤ a + 4 := fun e => q1 ⟨q2, e⟩
            simp only [decide_eq_true q2, decide_eq_false q3, Bool.true_and, Bool.false_and] at this
            exact this.symm
          · simp only [decide_eq_false q2, Bool.false_and] at this
            exact this.symm
        have q2 : ys < hd + 1 ∨ a + 4 < ys := by omega
        clear HD q1
        go_wp2_with fail
        refine (swithin_no ys (hd + 1) (a + 4) _ q2).mono ?_
        rintro e w1 ⟨rfl, hw⟩
        subst hw
        go_wp2
        go_ret
        exact ⟨by rw [HN.out]; rfl, HBA.out.trans ((Below.refl _ _).alloc (by omega) _)⟩
    · have HN : Hid (formFrom a a ks = true) := by
        have := HF.out
        unfold Hid
        rw [List.drop_of_length_le (by omega), formFrom_nil] at this
        exact this.symm
      clear HF
      go_wp2
      go_ret
      exact ⟨by rw [HN.out]; rfl, hba⟩

theorem sdrop {ks : List SessD} {k : Nat} {y : SessD} (h : ks[k]? = some y) : ks.drop k = y :: ks.drop (k + 1) := by
  obtain ⟨hi, he⟩ := List.getElem?_eq_some_iff.1 h
  rw [← he, ← List.drop_eq_getElem_cons hi]

set_option maxRecDepth 100000 in
set_option maxHeartbeats 3200000 in
theorem sessCheck_any (v : Value) (ls : List SessD) (i : Int) (w : World) (B : Nat) (hv : SessR w B v ls) (hB : B ≤ w.heap.size) :
    Calls Tryz.prog 50 #[v, .int .i64 i] w fun e w' => e = .returned (.int .i64 (checkS ls i)) ∧ Below w.heap.size w w' := by
  obtain ⟨ao, cap, rfl, h1, h2, h3, h4⟩ := hv
  by_cases k1 : 0 ≤ i ∧ i ≤ 1073741824
  · obtain ⟨g1, g2⟩ := k1
    by_cases k2 : 4 < ls.length
    · have e : checkS ls i = 1 := by unfold checkS; rw [if_neg (by omega), if_pos k2]
      rw [e]
      clear e h4
      go_enter Tryz.func50, Tryz.ntmps50
      go_wp2_with fail
      refine (swithin_yes i 0 1073741824 _ g1 g2).mono ?_
      rintro e w1 ⟨rfl, hw⟩
      subst hw
      go_wp2
      go_ret
      exact ⟨rfl, Below.refl _ _⟩
    · have e : checkS ls i = checkFromS i 0 ls := by unfold checkS; rw [if_neg (by omega), if_neg k2]
      rw [e]
      clear e
      go_enter Tryz.func50, Tryz.ntmps50
      go_wp2_with fail
      refine (swithin_yes i 0 1073741824 _ g1 g2).mono ?_
      rintro e w1 ⟨rfl, hw⟩
      subst hw
      go_wp2
      go_loopw [5, 16] (fun s j wr => ∃ (k : Nat) (hd : Int), k ≤ ls.length ∧ s = .int .i64 hd ∧ j = .int .i64 k ∧ Hid (checkFromS i hd (ls.drop k) = checkFromS i 0 ls) ∧ Below w1.heap.size w1 wr) (fun _ j _ => ls.length - (intOf j).toNat)
      case atStart => exact ⟨0, 0, Nat.zero_le _, rfl, rfl, by simp [Hid], Below.refl _ _⟩
      case round =>
        obtain ⟨k, hd, hk, rfl, rfl, HF, hb⟩ := hrel
        have hsz := hb.size
        by_cases hlt : k < ls.length
        · obtain ⟨b, off, rfl, hbB, hc⟩ := h4 (by omega)
          obtain ⟨y, hy⟩ : ∃ y, ls[k]? = some y := ⟨_, List.getElem?_eq_getElem hlt⟩
          obtain ⟨lv, c0, c1, c2, c3, c4, hl, -⟩ := (hc k y hy).below (by omega) hb hB
          have HD : Hid (checkFromS i hd (y :: ls.drop (k + 1)) = checkFromS i 0 ls) := by unfold Hid; rw [← sdrop hy]; exact HF.out
          have HB := ghid hb
          have HL := ghid hl
          clear hy hc h4 HF hb
          have hbr : b < wr.heap.size := by omega
          obtain ⟨yc, yi, ya, yl, yk⟩ := y
          obtain ⟨lo, lc, rfl, -⟩ := hl
          simp only at c0 c1 c2 c3 c4 HL
          have hba : Below wr.heap.size wr (wr.alloc (.cells #[.int .i64 yc, .int .i64 yi, .int .i64 ya, .int .i64 yl, .slice lo yk.length lc] 121)) := (Below.refl _ _).alloc (Nat.le_refl _) _
          have HBA := ghid hba
          clear hba
          by_cases q1 : (1 ≤ yc ∧ yc ≤ 9) ∧ (0 ≤ ya ∧ ya ≤ 1048576) ∧ (1 ≤ yi ∧ yi ≤ i) ∧ yi ≤ yl ∧ yl ≤ i
          · have r1 : rangeB ⟨yc, yi, ya, yl, yk⟩ i = true := by rw [rangeB_iff]; simp only; omega
            have C := sinForm_any yc yi ya yl (.slice lo yk.length lc) yk
            cases hf : formFrom ya ya yk with
            | true =>
              have f1 : sformB ⟨yc, yi, ya, yl, yk⟩ = true := hf
              rw [hf] at C
              have HC := ghid C
              clear C hf
              by_cases q3 : yc ≤ hd
              · have HN : Hid (checkFromS i 0 ls = 14) := HD.out.symm.trans (checkFromS_order r1 f1 q3)
                clear HD r1 f1
                go_wp2_with fail
                refine (inRange_yes yc yi ya yl i _ _ q1).mono ?_
                rintro e w2 ⟨rfl, hb2⟩
                obtain ⟨hc2, hf2⟩ := gcell hb2
                have hz2 : wr.heap.size < w2.heap.size := by have := hb2.size; simp at this; omega
                go_wp2_with fail
                refine (HC.out _ B ((HL.out.below HBA.out (by omega)).below hb2 (by simp; omega)) (by omega) q1.2.1.1 q1.2.1.2).mono ?_
                rintro e w3 ⟨rfl, hb3⟩
                obtain ⟨hc3, hf3⟩ := gcell hb3
                have hz3 : w2.heap.size ≤ w3.heap.size := hb3.size
                have hz4 : wr.heap.size < w3.heap.size := by omega
                have HB3 := ghid (HB.out.trans ((HBA.out.mono hsz).trans ((hb2.mono (by simp; omega)).trans (hb3.mono (by omega)))))
                go_wp2
                go_ret
                exact ⟨by rw [HN.out]; rfl, HB3.out⟩
              · have HN : Hid (checkFromS i yc (ls.drop (k + 1)) = checkFromS i 0 ls) := (checkFromS_next r1 f1 q3).symm.trans HD.out
                clear HD r1 f1
                go_wp2_with fail
                refine (inRange_yes yc yi ya yl i _ _ q1).mono ?_
                rintro e w2 ⟨rfl, hb2⟩
                obtain ⟨hc2, hf2⟩ := gcell hb2
                have hz2 : wr.heap.size < w2.heap.size := by have := hb2.size; simp at this; omega
                go_wp2_with fail
                refine (HC.out _ B ((HL.out.below HBA.out (by omega)).below hb2 (by simp; omega)) (by omega) q1.2.1.1 q1.2.1.2).mono ?_
                rintro e w3 ⟨rfl, hb3⟩
                obtain ⟨hc3, hf3⟩ := gcell hb3
                have hz3 : w2.heap.size ≤ w3.heap.size := hb3.size
                have hz4 : wr.heap.size < w3.heap.size := by omega
                have HB3 := ghid (HB.out.trans ((HBA.out.mono hsz).trans ((hb2.mono (by simp; omega)).trans (hb3.mono (by omega)))))
                go_wp2
                go_roundw
                case rel => exact ⟨k + 1, yc, by omega, rfl, by go_num, HN, HB3.out⟩
                case measure => simp [intOf]; omega
            | false =>
              have f1 : sformB ⟨yc, yi, ya, yl, yk⟩ = false := hf
              rw [hf] at C
              have HC := ghid C
              have HN : Hid (checkFromS i 0 ls = 4) := HD.out.symm.trans (checkFromS_form r1 f1)
              clear C hf HD r1 f1
              go_wp2_with fail
              refine (inRange_yes yc yi ya yl i _ _ q1).mono ?_
              rintro e w2 ⟨rfl, hb2⟩
              obtain ⟨hc2, hf2⟩ := gcell hb2
              have hz2 : wr.heap.size < w2.heap.size := by have := hb2.size; simp at this; omega
              go_wp2_with fail
              refine (HC.out _ B ((HL.out.below HBA.out (by omega)).below hb2 (by simp; omega)) (by omega) q1.2.1.1 q1.2.1.2).mono ?_
              rintro e w3 ⟨rfl, hb3⟩
              obtain ⟨hc3, hf3⟩ := gcell hb3
              have hz3 : w2.heap.size ≤ w3.heap.size := hb3.size
              have hz4 : wr.heap.size < w3.heap.size := by omega
              have HB3 := ghid (HB.out.trans ((HBA.out.mono hsz).trans ((hb2.mono (by simp; omega)).trans (hb3.mono (by omega)))))
              go_wp2
              go_ret
              exact ⟨by rw [HN.out]; rfl, HB3.out⟩
          · have r1 : rangeB ⟨yc, yi, ya, yl, yk⟩ i = false := by
              cases h : rangeB ⟨yc, yi, ya, yl, yk⟩ i
              · rfl
              · exact absurd (rangeB_iff.1 h) (by simp only; omega)
            have HN : Hid (checkFromS i 0 ls = 2) := HD.out.symm.trans (checkFromS_range r1)
            clear HD r1
            go_wp2_with fail
            refine (inRange_no yc yi ya yl i _ _ q1).mono ?_
            rintro e w2 ⟨rfl, hb2⟩
            have HB3 := ghid (HB.out.trans ((HBA.out.mono hsz).trans (hb2.mono (by simp; omega))))
            go_wp2
            go_ret
            exact ⟨by rw [HN.out]; rfl, HB3.out⟩
        · have HN : Hid (checkFromS i 0 ls = 0) := by
            have := HF.out
            unfold Hid
            rw [List.drop_of_length_le (by omega), checkFromS_nil] at this
            exact this.symm
          clear HF
          go_wp2
          go_ret
          exact ⟨by rw [HN.out]; rfl, hb⟩
  · have e : checkS ls i = 2 := by unfold checkS; rw [if_pos (by omega)]
    rw [e]
    have g1 : i < 0 ∨ 1073741824 < i := by omega
    clear e h4 k1
    go_enter Tryz.func50, Tryz.ntmps50
    go_wp2_with fail
    refine (swithin_no i 0 1073741824 _ g1).mono ?_
    rintro e w1 ⟨rfl, hw⟩
    subst hw
    go_wp2
    go_ret
    exact ⟨rfl, Below.refl _ _⟩

end Go.Proofs.YtijilhbdbeajjaaGreatDoor

namespace Go.Proofs.YtijilhbdbeajjaaGreatDoor

open Go.RowKit

/-- What is wrong with a state; 0: nothing. -/
def checkM (s : StateD) : Int := if checkS s.sess s.index ≠ 0 then checkS s.sess s.index else if checkL s.locks ≠ 0 then checkL s.locks else checkP s.pairs

theorem checkM_sess {s : StateD} (h : checkS s.sess s.index ≠ 0) : checkM s = checkS s.sess s.index := by unfold checkM; rw [if_pos h]

theorem checkM_locks {s : StateD} (h : checkS s.sess s.index = 0) (h2 : checkL s.locks ≠ 0) : checkM s = checkL s.locks := by unfold checkM; rw [if_neg (by simpa using h), if_pos h2]

theorem checkM_pairs {s : StateD} (h : checkS s.sess s.index = 0) (h2 : checkL s.locks = 0) : checkM s = checkP s.pairs := by unfold checkM; rw [if_neg (by simpa using h), if_neg (by simpa using h2)]

theorem checkM_zero {s : StateD} (h : checkM s = 0) : checkS s.sess s.index = 0 ∧ checkL s.locks = 0 ∧ checkP s.pairs = 0 := by
  by_cases h1 : checkS s.sess s.index = 0
  · by_cases h2 : checkL s.locks = 0
    · exact ⟨h1, h2, by rw [checkM_pairs h1 h2] at h; exact h⟩
    · rw [checkM_locks h1 h2] at h; exact absurd h h2
  · rw [checkM_sess h1] at h; exact absurd h h1

/-- The three checks of a state, a case each. -/
theorem checkM_cases (s : StateD) : (checkS s.sess s.index ≠ 0 ∧ checkM s = checkS s.sess s.index) ∨ (checkS s.sess s.index = 0 ∧ checkL s.locks ≠ 0 ∧ checkM s = checkL s.locks) ∨ (checkS s.sess s.index = 0 ∧ checkL s.locks = 0 ∧ checkM s = checkP s.pairs) := by
  by_cases h1 : checkS s.sess s.index = 0
  · by_cases h2 : checkL s.locks = 0
    · exact Or.inr (Or.inr ⟨h1, h2, checkM_pairs h1 h2⟩)
    · exact Or.inr (Or.inl ⟨h1, h2, checkM_locks h1 h2⟩)
  · exact Or.inl ⟨h1, checkM_sess h1⟩

set_option maxHeartbeats 800000 in
theorem machCheck_any (v : Value) (s : StateD) (w : World) (B : Nat) (hv : StateR w B v s) (hB : B ≤ w.heap.size) :
    Calls Tryz.prog 41 #[v] w fun e w' => e = .returned (.int .i64 (checkM s)) ∧ Below w.heap.size w w' := by
  obtain ⟨lv, pv, sv, rfl, h1, h2, h3⟩ := hv
  have CS := ghid (fun (w' : World) (hb : Below w.heap.size w w') => sessCheck_any sv s.sess s.index w' B (h3.below hb hB) (by have := hb.size; omega))
  have CL := ghid (fun (w' : World) (hb : Below w.heap.size w w') => check_any lv s.locks w' B (h1.below hb hB) (by have := hb.size; omega))
  have CP := ghid (fun (w' : World) (hb : Below w.heap.size w w') => pairCheck_any pv s.pairs w' B (h2.below hb hB) (by have := hb.size; omega))
  have HC := ghid (checkM_cases s)
  obtain ⟨lo, lc, rfl⟩ := h1.slice
  obtain ⟨po, pc, rfl⟩ := h2.slice
  obtain ⟨so, sc, rfl⟩ := h3.slice
  obtain ⟨ln, hln⟩ : ∃ n, n = s.locks.length := ⟨_, rfl⟩
  obtain ⟨pn, hpn⟩ : ∃ n, n = s.pairs.length := ⟨_, rfl⟩
  obtain ⟨sn, hsn⟩ : ∃ n, n = s.sess.length := ⟨_, rfl⟩
  obtain ⟨ix, hix⟩ : ∃ n, n = s.index := ⟨_, rfl⟩
  obtain ⟨c1, hc1⟩ : ∃ n, n = checkS s.sess s.index := ⟨_, rfl⟩
  obtain ⟨c2, hc2⟩ : ∃ n, n = checkL s.locks := ⟨_, rfl⟩
  obtain ⟨c3, hc3⟩ : ∃ n, n = checkP s.pairs := ⟨_, rfl⟩
  obtain ⟨c0, hc0⟩ : ∃ n, n = checkM s := ⟨_, rfl⟩
  rw [← hsn, ← hc1, ← hix] at CS
  rw [← hln, ← hc2] at CL
  rw [← hpn, ← hc3] at CP
  rw [← hc1, ← hc2, ← hc3, ← hc0] at HC
  rw [← hc0, ← hix, ← hln, ← hpn, ← hsn]
  have hb0 : Below w.heap.size w (w.alloc (.cells #[.int .i64 ix, .slice lo ln lc, .slice po pn pc, .slice so sn sc] 48)) := (Below.refl _ _).alloc (Nat.le_refl _) _
  have HB0 := ghid hb0
  clear h1 h2 h3 hln hpn hsn hix hc1 hc2 hc3 hc0 hb0
  rcases HC.out with ⟨e1, e0⟩ | ⟨e1, e2, e0⟩ | ⟨e1, e2, e0⟩
  · subst e0
    have hn : (c0 != 0) = true := by simpa using e1
    clear HC e1
    go_enter Tryz.func41, Tryz.ntmps41
    go_wp2_with fail
    refine (CS.out _ HB0.out).mono ?_
    rintro e w1 ⟨rfl, hb1⟩
    have HB1 := ghid (HB0.out.trans (hb1.mono (by simp)))
    clear hb1
    go_wp2
    go_ret
    exact ⟨rfl, HB1.out⟩
  · subst e0 e1
    have hn : (c0 != 0) = true := by simpa using e2
    clear HC e2
    go_enter Tryz.func41, Tryz.ntmps41
    go_wp2_with fail
    refine (CS.out _ HB0.out).mono ?_
    rintro e w1 ⟨rfl, hb1⟩
    have HB1 := ghid (HB0.out.trans (hb1.mono (by simp)))
    obtain ⟨k1, k2⟩ := gcell hb1
    clear hb1
    go_wp2_with fail
    refine (CL.out _ HB1.out).mono ?_
    rintro e w2 ⟨rfl, hb2⟩
    have HB2 := ghid (HB1.out.trans (hb2.mono HB1.out.size))
    clear hb2
    go_wp2
    go_ret
    exact ⟨rfl, HB2.out⟩
  · subst e0 e1 e2
    clear HC
    go_enter Tryz.func41, Tryz.ntmps41
    go_wp2_with fail
    refine (CS.out _ HB0.out).mono ?_
    rintro e w1 ⟨rfl, hb1⟩
    have HB1 := ghid (HB0.out.trans (hb1.mono (by simp)))
    obtain ⟨k1, k2⟩ := gcell hb1
    have hz1 : w.heap.size < w1.heap.size := by have := hb1.size; simp at this; omega
    clear hb1
    go_wp2_with fail
    refine (CL.out _ HB1.out).mono ?_
    rintro e w2 ⟨rfl, hb2⟩
    have HB2 := ghid (HB1.out.trans (hb2.mono HB1.out.size))
    obtain ⟨k3, k4⟩ := gcell hb2
    clear hb2
    go_wp2_with fail
    refine (CP.out _ HB2.out).mono ?_
    rintro e w3 ⟨rfl, hb3⟩
    have HB3 := ghid (HB2.out.trans (hb3.mono HB2.out.size))
    clear hb3
    go_wp2
    go_ret
    exact ⟨rfl, HB3.out⟩

end Go.Proofs.YtijilhbdbeajjaaGreatDoor

namespace Go.Proofs.YtijilhbdbeajjaaGreatDoor

open Go.RowKit

section

variable {P : Program}

theorem run_copy_wide (w : World) (dT sT ty elem : TypeId) (i : TypeInfo) (g o dLen dCap : Nat) (a : Addr) (sLen sCap m : Nat) (cur : Array Value) (t : TypeId) (cs : List Value)
    (hu : P.underlying dT = some (.slice elem)) (hi : P.info? elem = some i) (hg : w.heap[g]? = some (.cells cur t (0, 0))) (hm : Nat.min sLen dLen = m) (hn : cs.length = m * i.size)
    (hsrc : ∀ j v, cs[j]? = some v → w.cell? (a.add j) = some v) (hfit : o + cs.length ≤ cur.size) (h1 : ∀ v ∈ cs, v.oneCell' = true) :
    (Builtin.copy_ #[dT, sT] ty #[.slice (some ⟨g, o, none⟩) dLen dCap, .slice (some a) sLen sCap]).run P w =
      .ok (goInt m) (w.setRow g (cur.toList.take o ++ cs ++ cur.toList.drop (o + cs.length)).toArray) := by
  have hl := run_firstCells_some (P := P) w i.size m a sLen sCap cs hn hsrc
  have hst := run_storeCells_at P g o t cs 0 cur w hg (by simpa using hfit) h1
  simp only [Nat.add_zero] at hst
  have hm' : min sLen dLen = m := hm
  simp [Builtin.copy_, run_underlying hu, Builtin.lenOf, sizeOf, typeInfo, hi, hm', hl, hst]

theorem wp_copy_wide {w : World} {o : Oper} {a : Act} {K : Act → World → Prop} {Q : Exit → Act → World → Prop} (d s : Operand) (dT sT : TypeId)
    (ho : o.op = .call { callee := .builtin .copy, args := #[d, s], argTypes := #[dT, sT] }) (elem : TypeId) (i : TypeInfo) (hu : P.underlying dT = some (.slice elem)) (hi : P.info? elem = some i)
    (g off dLen dCap : Nat) (ad : Addr) (sLen sCap m : Nat) (hd : a.eval d = .slice (some ⟨g, off, none⟩) dLen dCap) (hs : a.eval s = .slice (some ad) sLen sCap)
    (cur : Array Value) (t : TypeId) (hg : w.heap[g]? = some (.cells cur t (0, 0))) (cs : List Value) (hm : Nat.min sLen dLen = m) (hn : cs.length = m * i.size)
    (hsrc : ∀ j v, cs[j]? = some v → w.cell? (ad.add j) = some v) (hfit : off + cs.length ≤ cur.size) (h1 : ∀ v ∈ cs, v.oneCell' = true)
    (h : K (a.put o.dst (goInt m)) (w.setRow g (cur.toList.take off ++ cs ++ cur.toList.drop (off + cs.length)).toArray)) : o.wp P a w K Q := by
  have hrun := run_copy_wide (P := P) w dT sT o.type elem i g off dLen dCap ad sLen sCap m cur t cs hu hi hg hm hn hsrc hfit h1
  unfold Oper.wp execOp
  simp only [ho, resolve, invoke, builtin, Sem.run_bind, Sem.run_pure, Result.andThen_ok, List.map_toArray, List.map_cons, List.map_nil, hd, hs, hrun]
  exact h

theorem wpList_copy_wide {w : World} {ops : Array Oper} {rest : List Oper} {o : Oper} {a : Act} {Q : Exit → Act → World → Prop} (hgd : o.guard = none) (d s : Operand) (dT sT : TypeId)
    (ho : o.op = .call { callee := .builtin .copy, args := #[d, s], argTypes := #[dT, sT] }) (elem : TypeId) (i : TypeInfo) (hu : P.underlying dT = some (.slice elem)) (hi : P.info? elem = some i)
    (g off dLen dCap : Nat) (ad : Addr) (sLen sCap m : Nat) (hd : a.eval d = .slice (some ⟨g, off, none⟩) dLen dCap) (hs : a.eval s = .slice (some ad) sLen sCap)
    (cur : Array Value) (t : TypeId) (hg : w.heap[g]? = some (.cells cur t (0, 0))) (cs : List Value) (hm : Nat.min sLen dLen = m) (hn : cs.length = m * i.size)
    (hsrc : ∀ j v, cs[j]? = some v → w.cell? (ad.add j) = some v) (hfit : off + cs.length ≤ cur.size) (h1 : ∀ v ∈ cs, v.oneCell' = true)
    (h : wpList P ops Q rest (a.put o.dst (goInt m)) (w.setRow g (cur.toList.take off ++ cs ++ cur.toList.drop (off + cs.length)).toArray)) : wpList P ops Q (o :: rest) a w :=
  wpList_plain hgd fun _ hK => wp_copy_wide d s dT sT ho elem i hu hi g off dLen dCap ad sLen sCap m hd hs cur t hg cs hm hn hsrc hfit h1 (hK _ _ h)

theorem step_copy_wide {w : World} {ops : Array Oper} {o : Oper} {a : Act} {K : Act → World → Prop} {Q : Exit → Act → World → Prop} {E : Prop} (hgd : o.guard = none) (d s : Operand) (dT sT : TypeId)
    (ho : o.op = .call { callee := .builtin .copy, args := #[d, s], argTypes := #[dT, sT] }) (elem : TypeId) (i : TypeInfo) (hu : P.underlying dT = some (.slice elem)) (hi : P.info? elem = some i)
    (g off dLen dCap : Nat) (ad : Addr) (sLen sCap m : Nat) (hd : a.eval d = .slice (some ⟨g, off, none⟩) dLen dCap) (hs : a.eval s = .slice (some ad) sLen sCap)
    (cur : Array Value) (t : TypeId) (hg : w.heap[g]? = some (.cells cur t (0, 0))) (cs : List Value) (hm : Nat.min sLen dLen = m) (hn : cs.length = m * i.size)
    (hsrc : ∀ j v, cs[j]? = some v → w.cell? (ad.add j) = some v) (hfit : off + cs.length ≤ cur.size) (h1 : ∀ v ∈ cs, v.oneCell' = true)
    (h : K (a.put o.dst (goInt m)) (w.setRow g (cur.toList.take off ++ cs ++ cur.toList.drop (off + cs.length)).toArray)) :
    if Region.wanted o (yielded ops a.tmps) = true then Oper.wp P o a w K Q else E := by
  have hw : Region.wanted o (yielded ops a.tmps) = true := by simp [Region.wanted, hgd]
  rw [if_pos hw]
  exact wp_copy_wide d s dT sT ho elem i hu hi g off dLen dCap ad sLen sCap m hd hs cur t hg cs hm hn hsrc hfit h1 h

theorem run_append_zeros (w : World) (t ti ty e : TypeId) (i : TypeInfo) (z : Value) (ht : P.underlying t = some (.slice e)) (hti : P.underlying ti = some (.int .i64)) (hi : P.info? e = some i) (hz : i.zero = some z)
    (b : Addr) (sLen sCap : Nat) (olds : List Value) (hlo : olds.length = sLen * i.size) (holds : ∀ j v, olds[j]? = some v → w.cell? (b.add j) = some v) (n : Nat) (hsz : 0 < i.size) (hn0 : 0 < n)
    (hn1 : (n : Int) ≤ 9223372036854775807) (hn2 : n * i.bytes ≤ 281474976710656)
    (hg : sCap < sLen + n) (h63 : ((sLen + n : Nat) : Int) ≤ 9223372036854775807) (hfit : Builtin.nextslicecap (sLen + n) sCap * i.bytes ≤ 281474976710656) :
    (Builtin.append_ #[t, ti] ty #[.slice (some b) sLen sCap, .int .i64 (n : Int)]).run P w =
      .ok (.slice (some ⟨w.heap.size, 0, none⟩) (sLen + n) (grownCap w (sLen + n) sCap e))
        (w.drew.alloc (.cells (olds.toArray ++ Builtin.zeroCells z.cells n ++ Builtin.zeroCells z.cells (grownCap w (sLen + n) sCap e - (sLen + n))) e)) := by
  have hn : ¬ (sLen + n ≤ sCap) := by omega
  have h63' : ¬ (9223372036854775807 < ((sLen : Int) + (n : Int))) := by omega
  have h48' : ¬ (281474976710656 < Builtin.nextslicecap (sLen + n) sCap * i.bytes) := by omega
  have hfo := run_firstCells_some (P := P) w.drew i.size sLen b sLen sCap olds hlo (by simpa using holds)
  have hw : IntKind.i64.wrap (n : Int) = (n : Int) := by rw [IntKind.wrap_i64]; omega
  have h0 : ¬ ((n : Int) < 0) := by omega
  have hb : ¬ (281474976710656 < (n : Int) * (i.bytes : Int)) := by
    have : ((n * i.bytes : Nat) : Int) ≤ 281474976710656 := by omega
    rw [Int.natCast_mul] at this
    omega
  have hne : ¬ (n = 0 ∨ i.size = 0) := by omega
  simp [Builtin.append_, run_underlying ht, run_underlying hti, sizeOf, typeInfo, zeroValue, hi, hz, hn, h63', h48', Question.forced, hfo, newRow, grownCap, asInt, asIntOf, hw, h0, hb]
  intro h
  exact absurd (Nat.mul_eq_zero.1 h) hne

theorem wpList_append_zeros {w : World} {ops : Array Oper} {rest : List Oper} {o : Oper} {a : Act} {Q : Exit → Act → World → Prop} (hgd : o.guard = none) (s x : Operand) (t ti : TypeId)
    (ho : o.op = .call { callee := .builtin .append, args := #[s, x], argTypes := #[t, ti] })
    (e : TypeId) (i : TypeInfo) (z : Value) (size bytes : Nat) (ht : P.underlying t = some (.slice e)) (hti : P.underlying ti = some (.int .i64)) (hi : P.info? e = some i) (hz : i.zero = some z) (hsize : i.size = size) (hby : i.bytes = bytes) (hzs : z.cells.size = size) (hsz : 0 < size)
    (b : Addr) (sLen sCap : Nat) (olds : List Value) (hs : a.eval s = .slice (some b) sLen sCap) (hlo : olds.length = sLen * size) (holds : ∀ j v, olds[j]? = some v → w.cell? (b.add j) = some v) (n : Nat) (X : Int) (hx : a.eval x = .int .i64 X) (hX : X = (n : Int)) (hn0 : 0 < n)
    (hg : sCap < sLen + n) (h63 : sLen + n ≤ maxLen) (hbytes : (sLen + n) * bytes ≤ 140737488355328)
    (h : ∀ (C : Nat) (Z : List Value), sLen + n ≤ C → C ≤ maxLen → Z.length = (C - sLen) * size → wpList P ops Q rest (a.put o.dst (.slice (some ⟨w.heap.size, 0, none⟩) (sLen + n) C)) (w.drew.alloc (.cells (olds ++ Z).toArray e))) : wpList P ops Q (o :: rest) a w := by
  subst hX
  subst hsize
  subst hby
  have h63' : sLen + n ≤ 9223372036854775807 := by unfold maxLen at h63; exact h63
  have hnb : n * i.bytes ≤ (sLen + n) * i.bytes := Nat.mul_le_mul_right _ (by omega)
  have hr := run_append_zeros (P := P) w t ti o.type e i z ht hti hi hz b sLen sCap olds hlo holds n hsz hn0 (by omega) (by omega) hg (by omega) (growslice_fits hg hbytes)
  refine wpList_plain hgd fun K hK => ?_
  have hge := grownCap_ge w (sLen + n) sCap e
  have hle := grownCap_le_maxLen w (sLen + n) sCap e h63
  obtain ⟨C, hC⟩ : ∃ C, C = grownCap w (sLen + n) sCap e := ⟨_, rfl⟩
  rw [← hC] at hr hge hle
  unfold Oper.wp execOp
  simp only [ho, resolve, invoke, builtin, Sem.run_bind, Sem.run_pure, Result.andThen_ok, List.map_toArray, List.map_cons, List.map_nil, hs, hx, hr]
  have := h C ((Builtin.zeroCells z.cells n).toList ++ (Builtin.zeroCells z.cells (C - (sLen + n))).toList) hge hle (by
    simp only [List.length_append, Array.length_toList, size_zeroCells, hzs]
    rw [← Nat.add_mul]
    congr 1
    omega)
  refine hK _ _ ?_
  have e1 : (olds ++ ((Builtin.zeroCells z.cells n).toList ++ (Builtin.zeroCells z.cells (C - (sLen + n))).toList)).toArray = olds.toArray ++ Builtin.zeroCells z.cells n ++ Builtin.zeroCells z.cells (C - (sLen + n)) := by
    apply Array.ext'
    simp
  rw [e1] at this
  exact this

end

end Go.Proofs.YtijilhbdbeajjaaGreatDoor

namespace Go.Proofs.YtijilhbdbeajjaaGreatDoor

open Go.RowKit

theorem Tryz.infoInt : (Tryz.prog.info? 3).map (fun i => (i.zero, i.size, i.bytes)) = some (some (.int .i64 0), 1, 8) := by kernel_rfl

theorem intCells_one (xs : List Int) : ∀ u ∈ intCells xs, u.oneCell' = true := by
  intro u hu
  obtain ⟨x, _, rfl⟩ := List.mem_map.1 hu
  rfl

theorem intCells_at {w : World} {a : Addr} {xs : List Int} (h : 0 < xs.length → ∃ b off, a = ⟨b, off, none⟩ ∧ ∀ i x, xs[i]? = some x → w.cell? ⟨b, off + i, none⟩ = some (.int .i64 x)) :
    ∀ j u, (intCells xs)[j]? = some u → w.cell? (a.add j) = some u := by
  intro j u hu
  unfold intCells at hu
  rw [List.getElem?_map] at hu
  obtain ⟨x, hx, rfl⟩ := Option.map_eq_some_iff.1 hu
  have hj : j < xs.length := (List.getElem?_eq_some_iff.1 hx).1
  obtain ⟨b, off, rfl, hc⟩ := h (by omega)
  have e : (⟨b, off, none⟩ : Addr).add j = ⟨b, off + j, none⟩ := by unfold Addr.add; split <;> simp_all
  rw [e]
  exact hc j x hx

set_option maxHeartbeats 800000 in
theorem cloneInts (v : Value) (xs : List Int) (w : World) (B : Nat) (hv : IntsR w B v xs) (hB : B ≤ w.heap.size) :
    Calls Tryz.prog 135 #[v] w fun e w' => ∃ v', e = .returned v' ∧ w'.ownsRow w.heap.size 3 1 v' xs.length (intCells xs) ∧ Below w.heap.size w w' := by
  obtain ⟨i0, hi, hz0, hz1, hz2⟩ := info_parts Tryz.infoInt
  have q22 : ∀ (w : World) (a : Option Addr) (n c n' c' : Nat), (binOp .eql 80 (.slice a n c) (.slice none n' c')).run Tryz.prog w = .ok (.bool a.isNone) w := fun w a n c n' c' => Lib.run_eql_slice_nil w _ _ a n c n' c' Tryz.underlying80
  obtain ⟨ao, cap, rfl, h1, h2, h3, h4⟩ := hv
  cases ao with
  | none =>
    have hc0 := h3 rfl
    have hx : xs = [] := List.eq_nil_of_length_eq_zero (by omega)
    subst hx
    subst hc0
    clear h4 h3 h1 h2
    simp only [List.length_nil]
    go_enter Tryz.func135, Tryz.ntmps135
    go_wp2
    go_ret
    exact ⟨_, rfl, World.ownsRow_nil _ _ _ _, Below.refl _ _⟩
  | some a =>
    have hn : ∀ j u, (intCells xs)[j]? = some u → (w.alloc (.cells #[] 3)).cell? (a.add j) = some u := intCells_at fun hp => by
      obtain ⟨b, off, e, hlt, hc⟩ := h4 hp
      exact ⟨b, off, by simpa using e, fun i x hx => (((Below.refl w.heap.size w).alloc (Nat.le_refl _) (.cells #[] 3)).cell (p := ⟨b, off + i, none⟩) (by simp; omega)).trans (hc i x hx)⟩
    have HN : Hid (∀ j u, (intCells xs)[j]? = some u → (w.alloc (.cells #[] 3)).cell? (a.add j) = some u) := hn
    have HO : Hid ((w.alloc (.cells #[] 3)).ownsRow w.heap.size 3 1 (.slice (some ⟨w.heap.size, 0, none⟩) 0 0) 0 []) := World.ownsRow_lit w #[] 0 (Nat.le_refl _) (by unfold maxLen; omega) rfl
    clear hn h4 h3
    go_enter Tryz.func135, Tryz.ntmps135
    go_wp2_with (at_builtin; refine wpList_append_own _ rfl (.tmp 5) (.tmp 6) 80 rfl w.heap.size 3 i0 (.int .i64 0) 1 8 Tryz.underlying80 hi hz0 hz1 hz2 rfl (by decide) _ _ _ rfl HO.out a xs.length cap (intCells xs) rfl (by simp [intCells]) HN.out (intCells_one xs) (by unfold maxLen; omega) (by omega) (by simp) ?_)
    intro v1 w1 hown hgrow _
    have hb1 : Below w.heap.size w w1 := ((Below.refl w.heap.size w).alloc (Nat.le_refl _) (.cells #[] 3)).grown hgrow (by simp) (fun k hk => by simp [Value.ownBlock] at hk; omega)
    have hown2 : Hid (w1.ownsRow w.heap.size 3 1 v1 xs.length (intCells xs)) := by unfold Hid; simpa using hown
    clear hown hgrow
    go_wp2
    go_ret
    exact ⟨_, rfl, hown2.out, hb1⟩

end Go.Proofs.YtijilhbdbeajjaaGreatDoor

namespace Go.Proofs.YtijilhbdbeajjaaGreatDoor

open Go.RowKit Go.Shelf

def cloneRen : Go.Shelf.Ren := ⟨fun | 316 => 176 | n => n, fun | 9 => 9 | 3 => 3 | 4 => 4 | 37 => 147 | 0 => 0 | 127 => 200 | 5 => 5 | n => n, fun | n => n⟩

theorem cloneLays : Go.Proofs.LaysM.n316 Tryz.prog cloneRen := {
  mixed := by kernel_rfl
  f316 := Tryz.func176.trans (congrArg some (by kernel_rfl))
  t0 := Tryz.underlying0
  a0 := Tryz.isAgg0
  z0 := Tryz.sizeOf0
  v0 := Tryz.zeroValue0
  t3 := Tryz.underlying3
  a3 := Tryz.isAgg3
  z3 := Tryz.sizeOf3
  v3 := Tryz.zeroValue3
  t4 := Tryz.underlying4
  a4 := Tryz.isAgg4
  z4 := Tryz.sizeOf4
  v4 := Tryz.zeroValue4
  t9 := Tryz.underlying9
  a9 := Tryz.isAgg9
  z9 := Tryz.sizeOf9
  v9 := Tryz.zeroValue9
  t37 := Tryz.underlying147
  a37 := Tryz.isAgg147
  z37 := Tryz.sizeOf147
  v37 := Tryz.zeroValue147
  t127 := Tryz.underlying200
  a127 := Tryz.isAgg200
  z127 := Tryz.sizeOf200
  v127 := Tryz.zeroValue200
  t5 := Tryz.underlying5
  a5 := Tryz.isAgg5
  z5 := Tryz.sizeOf5
  v5 := Tryz.zeroValue5
  i0 := by kernel_rfl
  i3 := by kernel_rfl
  i4 := by kernel_rfl
  i5 := by kernel_rfl
  i9 := by kernel_rfl
  i37 := by kernel_rfl
  i127 := by kernel_rfl }

theorem liteClone (s : ByteArray) (w : World) (hlim : s.size ≤ 281474976710656) :
    Calls Tryz.prog 176 #[.string s] w fun e w' => e = .returned (.string s) ∧ Below w.heap.size w w' :=
  Any.stringslite_Clone cloneLays s w hlim

theorem clone_any (s : ByteArray) (w : World) (hlim : s.size ≤ 281474976710656) :
    Calls Tryz.prog 134 #[.string s] w fun e w' => e = .returned (.string s) ∧ Below w.heap.size w w' := by
  go_enter Tryz.func134, Tryz.ntmps134
  go_wp2_with fail
  refine (liteClone s _ hlim).mono ?_
  rintro e w1 ⟨rfl, g1⟩
  go_wp2
  go_ret
  exact ⟨rfl, g1⟩

end Go.Proofs.YtijilhbdbeajjaaGreatDoor
