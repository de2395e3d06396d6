/- Plain mathematics of pairs: when may they be; where a name stands; what is set, what is got; pair.Check, and the document's PairsFault: what is wrong with pairs (joined by program) -/
import Derived.Laws.Cover1
import Derived.Deep.QuietTactic
import Derived.BigQuiet
import Derived.Test.YtpcacaohknkdlagSE00
import Derived.Test.YtpcacaohknkdlagSE05
import Derived.Test.YtpcacaohknkdlagSE07
namespace Go.Proofs.Ytpcacaohknkdlag

open Go.RowKit

/-- Is a text below another one? Are two one? -/
def ltP (a b : ByteArray) : Bool := Op.bytesLess a.toList b.toList

def eqP (a b : ByteArray) : Bool := a.toList == b.toList

def leP (a b : ByteArray) : Bool := Op.bytesLess a.toList b.toList || a.toList == b.toList

theorem less_irrefl : ∀ (x : List UInt8), Op.bytesLess x x = false
  | [] => rfl
  | a :: x => by simp [Op.bytesLess, less_irrefl x]

theorem less_trans : ∀ (x y z : List UInt8), Op.bytesLess x y = true → Op.bytesLess y z = true → Op.bytesLess x z = true
  | _, [], _, h, _ => by simp [Op.bytesLess] at h
  | _, _ :: _, [], _, h => by simp [Op.bytesLess] at h
  | [], _ :: _, _ :: _, _, _ => by simp [Op.bytesLess]
  | a :: x, b :: y, c :: z, h1, h2 => by
    simp only [Op.bytesLess, Bool.or_eq_true, decide_eq_true_eq, Bool.and_eq_true, beq_iff_eq] at h1 h2 ⊢
    rcases h1 with h1 | ⟨rfl, h1⟩
    · rcases h2 with h2 | ⟨rfl, h2⟩
      · exact Or.inl (UInt8.lt_trans h1 h2)
      · exact Or.inl h1
    · rcases h2 with h2 | ⟨rfl, h2⟩
      · exact Or.inl h2
      · exact Or.inr ⟨rfl, less_trans x y z h1 h2⟩

theorem less_total : ∀ (x y : List UInt8), Op.bytesLess x y = false → x ≠ y → Op.bytesLess y x = true
  | [], [], _, h => absurd rfl h
  | _ :: _, [], _, _ => by simp [Op.bytesLess]
  | [], _ :: _, h, _ => by simp [Op.bytesLess] at h
  | a :: x, b :: y, h, hne => by
    simp only [Op.bytesLess, Bool.or_eq_false_iff, decide_eq_false_iff_not, Bool.and_eq_false_iff, beq_eq_false_iff_ne] at h
    simp only [Op.bytesLess, Bool.or_eq_true, decide_eq_true_eq, Bool.and_eq_true, beq_iff_eq]
    obtain ⟨h1, h2⟩ := h
    by_cases e : a = b
    · subst e
      right
      refine ⟨rfl, less_total x y ?_ (fun e => hne (by rw [e]))⟩
      rcases h2 with h2 | h2
      · exact absurd rfl h2
      · exact h2
    · left
      rw [UInt8.lt_iff_toNat_lt] at h1 ⊢
      have : a.toNat ≠ b.toNat := fun h => e (UInt8.toNat_inj.1 h)
      omega

theorem toList_inj {a b : ByteArray} (h : a.toList = b.toList) : a = b := by
  rw [ByteArray.toList_eq, ByteArray.toList_eq] at h
  have : a.data = b.data := Array.toList_inj.1 (by simpa using h)
  cases a; cases b; simp_all

theorem ltP_irrefl (a : ByteArray) : ltP a a = false := less_irrefl _

theorem ltP_trans {a b c : ByteArray} (h1 : ltP a b = true) (h2 : ltP b c = true) : ltP a c = true := less_trans _ _ _ h1 h2

theorem ltP_total {a b : ByteArray} (h : ltP a b = false) (hne : a ≠ b) : ltP b a = true := less_total _ _ h (fun e => hne (toList_inj e))

theorem ltP_ne {a b : ByteArray} (h : ltP a b = true) : a ≠ b := by rintro rfl; rw [ltP_irrefl] at h; cases h

theorem leP_false {a b : ByteArray} (h : leP a b = false) : ltP b a = true := by
  unfold leP at h
  rw [Bool.or_eq_false_iff] at h
  exact ltP_total h.1 (fun e => by rw [e] at h; simp at h)

theorem leP_of_lt {a b : ByteArray} (h : ltP b a = true) : leP a b = false := by
  unfold leP
  rw [Bool.or_eq_false_iff]
  refine ⟨?_, ?_⟩
  · cases hx : Op.bytesLess a.toList b.toList with
    | false => rfl
    | true =>
      have := ltP_trans h hx
      rw [ltP_irrefl] at this
      cases this
  · have := ltP_ne h
    cases hx : (a.toList == b.toList) with
    | false => rfl
    | true => exact absurd (toList_inj (beq_iff_eq.1 hx)).symm this

/-- Pairs one by one, the name of the one ahead given. -/
def checkPF : ByteArray → List PairD → Int
  | _, [] => 0
  | p, x :: t => if nameB x.name = false then 4 else if 12 < x.value.size then 1 else if x.version < 1 ∨ 1073741824 < x.version then 2 else if leP x.name p = true then 14 else checkPF x.name t

/-- What is wrong with pairs; 0: nothing. -/
def checkP (ps : List PairD) : Int := if 5 < ps.length then 1 else checkPF ⟨#[]⟩ ps

theorem checkPF_each {p : ByteArray} {ps : List PairD} (h : checkPF p ps = 0) :
    (∀ x ∈ ps, nameB x.name = true ∧ x.value.size ≤ 12 ∧ 1 ≤ x.version ∧ x.version ≤ 1073741824 ∧ ltP p x.name = true) ∧ ∀ (i j : Nat) (x y : PairD), i < j → ps[i]? = some x → ps[j]? = some y → ltP x.name y.name = true := by
  induction ps generalizing p with
  | nil => exact ⟨fun x hx => (by cases hx), fun i j x y _ hx => (by simp at hx)⟩
  | cons a t ih =>
    unfold checkPF at h
    split at h
    · cases h
    · rename_i h1
      split at h
      · cases h
      · rename_i h2
        split at h
        · cases h
        · rename_i h3
          split at h
          · cases h
          · rename_i h4
            obtain ⟨e1, e2⟩ := ih h
            have h4' : ltP p a.name = true := leP_false (by simpa using h4)
            refine ⟨fun x hx => ?_, fun i j x y hij hx hy => ?_⟩
            · rcases List.mem_cons.1 hx with rfl | hx
              · exact ⟨by simpa using h1, by omega, by omega, by omega, h4'⟩
              · obtain ⟨g1, g2, g3, g4, g5⟩ := e1 x hx
                exact ⟨g1, g2, g3, g4, ltP_trans h4' g5⟩
            · cases j with
              | zero => omega
              | succ j =>
                rw [List.getElem?_cons_succ] at hy
                cases i with
                | zero =>
                  rw [List.getElem?_cons_zero] at hx
                  cases hx
                  exact (e1 y (List.mem_of_getElem? hy)).2.2.2.2
                | succ i =>
                  rw [List.getElem?_cons_succ] at hx
                  exact e2 i j x y (by omega) hx hy

theorem ltP_empty {a : ByteArray} (h : nameB a = true) : ltP ⟨#[]⟩ a = true := by
  obtain ⟨h1, _, _⟩ := nameB_yes h
  have e : (⟨#[]⟩ : ByteArray).toList = [] := by rw [ByteArray.toList_eq]
  unfold ltP
  rw [e]
  cases hl : a.toList with
  | nil =>
    rw [ByteArray.toList_eq] at hl
    have := congrArg List.length hl
    simp at this
    have h2 : a.size = 0 := by rw [← ByteArray.size_data]; simpa using this
    omega
  | cons c t => simp [Op.bytesLess]

theorem leP_empty {a : ByteArray} (h : nameB a = true) : leP a ⟨#[]⟩ = false := leP_of_lt (ltP_empty h)

/-- Pairs that may be. -/
structure GoodP (ps : List PairD) : Prop where
  len : ps.length ≤ 5
  each : ∀ x ∈ ps, nameB x.name = true ∧ x.value.size ≤ 12 ∧ 1 ≤ x.version ∧ x.version ≤ 1073741824
  order : ∀ (i j : Nat) (x y : PairD), i < j → ps[i]? = some x → ps[j]? = some y → ltP x.name y.name = true

theorem checkP_good {ps : List PairD} (h : checkP ps = 0) : GoodP ps := by
  unfold checkP at h
  split at h
  · cases h
  · obtain ⟨h1, h2⟩ := checkPF_each h
    exact ⟨by omega, fun x hx => by obtain ⟨a, b, c, d, _⟩ := h1 x hx; exact ⟨a, b, c, d⟩, h2⟩

end Go.Proofs.Ytpcacaohknkdlag

namespace Go.Proofs.Ytpcacaohknkdlag

open Go.RowKit

theorem pdrop_cons {α : Type} {l : List α} {k : Nat} {x : α} (h : l[k]? = some x) : l.drop k = x :: l.drop (k + 1) := by
  obtain ⟨hk, he⟩ := List.getElem?_eq_some_iff.1 h
  rw [List.drop_eq_getElem_cons hk, he]

theorem pret_i64 {a b : Int} (h : a = b) : Ending.returned (.int .i64 a) = .returned (.int .i64 b) := by rw [h]

set_option maxRecDepth 100000 in
set_option maxHeartbeats 1600000 in
theorem pairCheck_any (v : Value) (ps : List PairD) (w : World) (B : Nat) (hv : PairsR w B v ps) (hB : B ≤ w.heap.size) :
    Calls Try.prog 38 #[v] w fun e w' => e = .returned (.int .i64 (checkP ps)) ∧ Below w.heap.size w w' := by
  obtain ⟨ao, cap, rfl, h1, h2, h3, h4⟩ := hv
  by_cases c1 : 5 < ps.length
  · have e1 : checkP ps = 1 := by simp [checkP, c1]
    rw [e1]
    clear e1
    go_enter Try.func38, Try.ntmps38
    go_wp2
    go_ret
    exact ⟨rfl, Below.refl _ _⟩
  · have e1 : checkP ps = checkPF ⟨#[]⟩ ps := by simp [checkP, c1]
    rw [e1]
    clear e1
    go_enter Try.func38, Try.ntmps38
    go_wp2
    go_loopw [3, 11] (fun p i wr => ∃ (k : Nat) (nm : ByteArray), k ≤ ps.length ∧ i = .int .i64 k ∧ p = .string nm ∧ checkPF nm (ps.drop k) = checkPF ⟨#[]⟩ ps ∧ Below w.heap.size w wr)
      (fun _ i _ => ps.length - (intOf i).toNat)
    case atStart => exact ⟨0, ⟨#[]⟩, Nat.zero_le _, rfl, rfl, by simp, Below.refl _ _⟩
    case round =>
      obtain ⟨k, nm, hk, rfl, rfl, heq, hb⟩ := hrel
      have HE : Hid (checkPF nm (ps.drop k) = checkPF ⟨#[]⟩ ps) := heq
      clear heq
      by_cases hlt : k < ps.length
      · obtain ⟨b, off, rfl, hbB, hc⟩ := h4 (by omega)
        obtain ⟨x, hx⟩ : ∃ x, ps[k]? = some x := ⟨_, List.getElem?_eq_getElem hlt⟩
        have HX : Hid (ps.drop k = x :: ps.drop (k + 1)) := pdrop_cons hx
        obtain ⟨c0, c1, c2, hs0, hs1⟩ := (hc k x hx).below (by omega) hb
        have hsz := hb.size
        clear hx hc h4
        obtain ⟨xn, xv, xe⟩ := x
        simp only at c0 c1 c2 hs0 hs1
        have HF : Hid (checkPF nm (ps.drop k) = if nameB xn = false then 4 else if 12 < xv.size then 1 else if xe < 1 ∨ 1073741824 < xe then 2 else if leP xn nm = true then 14 else checkPF xn (ps.drop (k + 1))) := by
          unfold Hid; rw [HX.out]; rfl
        clear HX
        go_wp2_with fail
        refine (name_any xn _ (by omega)).mono ?_
        rintro e w1 ⟨rfl, rfl⟩
        have HB := phid (hb.alloc hb.size (.cells #[.string xn, .string xv, .int .i64 xe] 57))
        clear hb
        cases hform : nameB xn with
        | false =>
          rw [hform] at HF
          go_wp2
          go_ret
          exact ⟨pret_i64 (by rw [← HE.out, HF.out]; rfl), HB.out⟩
        | true =>
          rw [hform] at HF
          by_cases f0 : 12 < xv.size
          · go_wp2
            go_ret
            exact ⟨pret_i64 (by rw [← HE.out, HF.out]; simp [f0]), HB.out⟩
          · by_cases f1 : xe < 1
            · go_wp2
              go_ret
              exact ⟨pret_i64 (by rw [← HE.out, HF.out]; simp [f0, f1]), HB.out⟩
            · by_cases f2 : 1073741824 < xe
              · go_wp2
                go_ret
                exact ⟨pret_i64 (by rw [← HE.out, HF.out]; simp [f0, f2]), HB.out⟩
              · have HF2 : Hid (checkPF nm (ps.drop k) = if leP xn nm = true then 14 else checkPF xn (ps.drop (k + 1))) := by
                  unfold Hid; rw [HF.out, if_neg (by simp), if_neg f0, if_neg (by omega)]
                clear HF
                cases hle : leP xn nm with
                | true =>
                  rw [hle] at HF2
                  have hle2 : (Op.bytesLess xn.toList nm.toList || xn.toList == nm.toList) = true := hle
                  clear hle
                  go_wp2
                  go_ret
                  exact ⟨pret_i64 (by rw [← HE.out, HF2.out]; rfl), HB.out⟩
                | false =>
                  rw [hle] at HF2
                  have hle2 : (Op.bytesLess xn.toList nm.toList || xn.toList == nm.toList) = false := hle
                  clear hle
                  go_wp2
                  go_roundw
                  case rel => exact ⟨k + 1, xn, by omega, by go_num, rfl, by rw [← HE.out, HF2.out]; rfl, HB.out⟩
                  case measure => simp [intOf]; omega
      · go_wp2
        go_ret
        exact ⟨pret_i64 (by rw [← HE.out, List.drop_of_length_le (by omega)]; rfl), hb⟩

set_option maxRecDepth 100000 in
set_option maxHeartbeats 1600000 in
theorem pairsFault_any (v : Value) (ps : List PairD) (w : World) (B : Nat) (hv : PairsR w B v ps) (hB : B ≤ w.heap.size) :
    Calls Try.prog 48 #[v] w fun e w' => e = .returned (.int .i64 (checkP ps)) ∧ Below w.heap.size w w' := by
  obtain ⟨ao, cap, rfl, h1, h2, h3, h4⟩ := hv
  by_cases c1 : 5 < ps.length
  · have e1 : checkP ps = 1 := by simp [checkP, c1]
    rw [e1]
    clear e1
    go_enter Try.func48, Try.ntmps48
    go_wp2
    go_ret
    exact ⟨rfl, Below.refl _ _⟩
  · have e1 : checkP ps = checkPF ⟨#[]⟩ ps := by simp [checkP, c1]
    rw [e1]
    clear e1
    go_enter Try.func48, Try.ntmps48
    go_wp2
    go_loopw [3] (fun i wr => ∃ (k : Nat) (nm : ByteArray), k ≤ ps.length ∧ i = .int .i64 k ∧ (k = 0 ∧ nm = ⟨#[]⟩ ∨ ∃ q y, k = q + 1 ∧ ps[q]? = some y ∧ nm = y.name) ∧ checkPF nm (ps.drop k) = checkPF ⟨#[]⟩ ps ∧ Below w.heap.size w wr)
      (fun i _ => ps.length - (intOf i).toNat)
    case atStart => exact ⟨0, ⟨#[]⟩, Nat.zero_le _, rfl, Or.inl ⟨rfl, rfl⟩, by simp, Below.refl _ _⟩
    case round =>
      obtain ⟨k, nm, hk, rfl, hnm, heq, hb⟩ := hrel
      have HE : Hid (checkPF nm (ps.drop k) = checkPF ⟨#[]⟩ ps) := heq
      have HN : Hid (k = 0 ∧ nm = ⟨#[]⟩ ∨ ∃ q y, k = q + 1 ∧ ps[q]? = some y ∧ nm = y.name) := hnm
      clear heq hnm
      by_cases hlt : k < ps.length
      · obtain ⟨b, off, rfl, hbB, hc⟩ := h4 (by omega)
        have HC : Hid (∀ (i : Nat) (x : PairD), ps[i]? = some x → PairAt wr b (off + i * 3) x) := fun i x hx => (hc i x hx).below (by omega) hb
        obtain ⟨x, hx⟩ : ∃ x, ps[k]? = some x := ⟨_, List.getElem?_eq_getElem hlt⟩
        have HX : Hid (ps.drop k = x :: ps.drop (k + 1)) := pdrop_cons hx
        have HXK : Hid (ps[k]? = some x) := hx
        obtain ⟨c0, c1, c2, hs0, hs1⟩ := HC.out k x hx
        have hsz := hb.size
        clear hx hc h4
        obtain ⟨xn, xv, xe⟩ := x
        simp only at c0 c1 c2 hs0 hs1
        have HF : Hid (checkPF nm (ps.drop k) = if nameB xn = false then 4 else if 12 < xv.size then 1 else if xe < 1 ∨ 1073741824 < xe then 2 else if leP xn nm = true then 14 else checkPF xn (ps.drop (k + 1))) := by
          unfold Hid; rw [HX.out]; rfl
        clear HX
        have HB := phid hb
        clear hb
        go_wp2_with fail
        refine (nameMay_any xn _ (by omega)).mono ?_
        rintro e w1 ⟨rfl, rfl⟩
        cases hform : nameB xn with
        | false =>
          rw [hform] at HF
          go_wp2
          go_ret
          exact ⟨pret_i64 (by rw [← HE.out, HF.out]; rfl), HB.out⟩
        | true =>
          rw [hform] at HF
          by_cases f0 : 12 < xv.size
          · go_wp2
            go_ret
            exact ⟨pret_i64 (by rw [← HE.out, HF.out]; simp [f0]), HB.out⟩
          · by_cases f1 : xe < 1
            · have C := in_low xe 1 1073741824 w1 f1
              go_wp2_with fail
              refine C.mono ?_
              rintro e w1 ⟨rfl, rfl⟩
              go_wp2
              go_ret
              exact ⟨pret_i64 (by rw [← HE.out, HF.out]; simp [f0, f1]), HB.out⟩
            · by_cases f2 : 1073741824 < xe
              · have C := in_high xe 1 1073741824 w1 f2
                go_wp2_with fail
                refine C.mono ?_
                rintro e w1 ⟨rfl, rfl⟩
                go_wp2
                go_ret
                exact ⟨pret_i64 (by rw [← HE.out, HF.out]; simp [f0, f2]), HB.out⟩
              · have HF2 : Hid (checkPF nm (ps.drop k) = if leP xn nm = true then 14 else checkPF xn (ps.drop (k + 1))) := by
                  unfold Hid; rw [HF.out, if_neg (by simp), if_neg f0, if_neg (by omega)]
                clear HF
                have C := in_yes xe 1 1073741824 w1 (by omega) (by omega)
                rcases HN.out with ⟨rfl, rfl⟩ | ⟨q, y, rfl, hy, rfl⟩
                · have HF3 : Hid (checkPF ⟨#[]⟩ (ps.drop 0) = checkPF xn (ps.drop (0 + 1))) := by
                    unfold Hid; rw [HF2.out, leP_empty hform]; rfl
                  clear HN
                  go_wp2_with fail
                  refine C.mono ?_
                  rintro e w1 ⟨rfl, rfl⟩
                  go_wp2_with fail
                  go_quiet (fail)
                  go_wp2
                  go_roundw
                  case rel => exact ⟨1, xn, by omega, rfl, Or.inr ⟨0, _, rfl, HXK.out, rfl⟩, by rw [← HE.out, HF3.out], by first | exact HB.out.trans (pairs_drewN_below _ _ _) | exact (HB.out.trans (pairs_drewN_below _ _ _)).trans (pairs_drewN_below _ _ _)⟩
                  case measure => simp [intOf]; omega
                · obtain ⟨d0, -⟩ := HC.out q y hy
                  obtain ⟨yn, yv, ye⟩ := y
                  simp only at d0 HF2 HE
                  have hq : q < ps.length := by omega
                  clear HN HC
                  cases hle : leP xn yn with
                  | true =>
                    rw [hle] at HF2
                    have hle2 : (Op.bytesLess xn.toList yn.toList || xn.toList == yn.toList) = true := hle
                    clear hle
                    go_wp2_with fail
                    refine C.mono ?_
                    rintro e w1 ⟨rfl, rfl⟩
                    go_wp2_with fail
                    go_quiet (fail)
                    go_wp2
                    go_ret
                    exact ⟨pret_i64 (by rw [← HE.out, HF2.out]; rfl), by first | exact HB.out.trans (pairs_drewN_below _ _ _) | exact (HB.out.trans (pairs_drewN_below _ _ _)).trans (pairs_drewN_below _ _ _)⟩
                  | false =>
                    rw [hle] at HF2
                    have hle2 : (Op.bytesLess xn.toList yn.toList || xn.toList == yn.toList) = false := hle
                    clear hle
                    go_wp2_with fail
                    refine C.mono ?_
                    rintro e w1 ⟨rfl, rfl⟩
                    go_wp2_with fail
                    go_quiet (fail)
                    go_wp2
                    go_roundw
                    case rel => exact ⟨q + 1 + 1, xn, by omega, by go_num, Or.inr ⟨q + 1, _, rfl, HXK.out, rfl⟩, by rw [← HE.out, HF2.out]; rfl, by first | exact HB.out.trans (pairs_drewN_below _ _ _) | exact (HB.out.trans (pairs_drewN_below _ _ _)).trans (pairs_drewN_below _ _ _)⟩
                    case measure => simp [intOf]; omega
      · go_wp2
        go_ret
        exact ⟨pret_i64 (by rw [← HE.out, List.drop_of_length_le (by omega)]; rfl), hb⟩

end Go.Proofs.Ytpcacaohknkdlag
