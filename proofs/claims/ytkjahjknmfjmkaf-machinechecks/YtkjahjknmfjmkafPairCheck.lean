/- pair.Check, and the document's PairsFault: what is wrong with pairs. -/
import Derived.Test.YtkjahjknmfjmkafPairMath
import Derived.Test.YtkjahjknmfjmkafLockName
import Derived.Laws.Cover1
import Derived.Deep.QuietTactic
import Derived.BigQuiet
namespace Go.Proofs.Ytkjahjknmfjmkaf
open Go.RowKit

theorem pdrop_cons {α : Type} {l : List α} {k : Nat} {x : α} (h : l[k]? = some x) : l.drop k = x :: l.drop (k + 1) := by
  obtain ⟨hk, he⟩ := List.getElem?_eq_some_iff.1 h
  rw [List.drop_eq_getElem_cons hk, he]

theorem pret_i64 {a b : Int} (h : a = b) : Ending.returned (.int .i64 a) = .returned (.int .i64 b) := by rw [h]

set_option maxRecDepth 100000 in
set_option maxHeartbeats 1600000 in
theorem pairCheck_any (v : Value) (ps : List PairD) (w : World) (B : Nat) (hv : PairsR w B v ps) (hB : B ≤ w.heap.size) :
    Calls Try.prog 43 #[v] w fun e w' => e = .returned (.int .i64 (checkP ps)) ∧ Below w.heap.size w w' := by
  obtain ⟨ao, cap, rfl, h1, h2, h3, h4⟩ := hv
  by_cases c1 : 5 < ps.length
  · have e1 : checkP ps = 1 := by simp [checkP, c1]
    rw [e1]
    clear e1
    go_enter Try.func43, Try.ntmps43
    go_wp2
    go_ret
    exact ⟨rfl, Below.refl _ _⟩
  · have e1 : checkP ps = checkPF ⟨#[]⟩ ps := by simp [checkP, c1]
    rw [e1]
    clear e1
    go_enter Try.func43, Try.ntmps43
    go_wp2
    go_loopw [3, 11] (fun p i wr => ∃ (k : Nat) (nm : ByteArray), k ≤ ps.length ∧ i = .int .i64 k ∧ p = .string nm ∧ checkPF nm (ps.drop k) = checkPF ⟨#[]⟩ ps ∧ Below w.heap.size w wr)
      (fun _ i _ => ps.length - (intOf i).toNat)
    case atStart => exact ⟨0, ⟨#[]⟩, Nat.zero_le _, rfl, rfl, by simp, Below.refl _ _⟩
    case round =>
      obtain ⟨k, nm, hk, rfl, rfl, heq, hb⟩ := hrel
      have HE : Hid (checkPF nm (ps.drop k) = checkPF ⟨#[]⟩ ps) := heq
      clear heq
      by_cases hlt : k < ps.length
      · obtain ⟨b, off, rfl, hbB, hc⟩ := h4 (by omega)
        obtain ⟨x, hx⟩ : ∃ x, ps[k]? = some x := ⟨_, List.getElem?_eq_getElem hlt⟩
        have HX : Hid (ps.drop k = x :: ps.drop (k + 1)) := pdrop_cons hx
        obtain ⟨c0, c1, c2, hs0, hs1⟩ := (hc k x hx).below (by omega) hb
        have hsz := hb.size
        clear hx hc h4
        obtain ⟨xn, xv, xe⟩ := x
        simp only at c0 c1 c2 hs0 hs1
        have HF : Hid (checkPF nm (ps.drop k) = if nameB xn = false then 4 else if 12 < xv.size then 1 else if xe < 1 ∨ 1073741824 < xe then 2 else if leP xn nm = true then 14 else checkPF xn (ps.drop (k + 1))) := by
          unfold Hid; rw [HX.out]; rfl
        clear HX
        go_wp2_with fail
        refine (name_any xn _ (by omega)).mono ?_
        rintro e w1 ⟨rfl, rfl⟩
        have HB := phid (hb.alloc hb.size (.cells #[.string xn, .string xv, .int .i64 xe] 90))
        clear hb
        cases hform : nameB xn with
        | false =>
          rw [hform] at HF
          go_wp2
          go_ret
          exact ⟨pret_i64 (by rw [← HE.out, HF.out]; rfl), HB.out⟩
        | true =>
          rw [hform] at HF
          by_cases f0 : 12 < xv.size
          · go_wp2
            go_ret
            exact ⟨pret_i64 (by rw [← HE.out, HF.out]; simp [f0]), HB.out⟩
          · by_cases f1 : xe < 1
            · go_wp2
              go_ret
              exact ⟨pret_i64 (by rw [← HE.out, HF.out]; simp [f0, f1]), HB.out⟩
            · by_cases f2 : 1073741824 < xe
              · go_wp2
                go_ret
                exact ⟨pret_i64 (by rw [← HE.out, HF.out]; simp [f0, f2]), HB.out⟩
              · have HF2 : Hid (checkPF nm (ps.drop k) = if leP xn nm = true then 14 else checkPF xn (ps.drop (k + 1))) := by
                  unfold Hid; rw [HF.out, if_neg (by simp), if_neg f0, if_neg (by omega)]
                clear HF
                cases hle : leP xn nm with
                | true =>
                  rw [hle] at HF2
                  have hle2 : (Op.bytesLess xn.toList nm.toList || xn.toList == nm.toList) = true := hle
                  clear hle
                  go_wp2
                  go_ret
                  exact ⟨pret_i64 (by rw [← HE.out, HF2.out]; rfl), HB.out⟩
                | false =>
                  rw [hle] at HF2
                  have hle2 : (Op.bytesLess xn.toList nm.toList || xn.toList == nm.toList) = false := hle
                  clear hle
                  go_wp2
                  go_roundw
                  case rel => exact ⟨k + 1, xn, by omega, by go_num, rfl, by rw [← HE.out, HF2.out]; rfl, HB.out⟩
                  case measure => simp [intOf]; omega
      · go_wp2
        go_ret
        exact ⟨pret_i64 (by rw [← HE.out, List.drop_of_length_le (by omega)]; rfl), hb⟩

set_option maxRecDepth 100000 in
set_option maxHeartbeats 1600000 in
theorem pairsFault_any (v : Value) (ps : List PairD) (w : World) (B : Nat) (hv : PairsR w B v ps) (hB : B ≤ w.heap.size) :
    Calls Try.prog 45 #[v] w fun e w' => e = .returned (.int .i64 (checkP ps)) ∧ Below w.heap.size w w' := by
  obtain ⟨ao, cap, rfl, h1, h2, h3, h4⟩ := hv
  by_cases c1 : 5 < ps.length
  · have e1 : checkP ps = 1 := by simp [checkP, c1]
    rw [e1]
    clear e1
    go_enter Try.func45, Try.ntmps45
    go_wp2
    go_ret
    exact ⟨rfl, Below.refl _ _⟩
  · have e1 : checkP ps = checkPF ⟨#[]⟩ ps := by simp [checkP, c1]
    rw [e1]
    clear e1
    go_enter Try.func45, Try.ntmps45
    go_wp2
    go_loopw [3] (fun i wr => ∃ (k : Nat) (nm : ByteArray), k ≤ ps.length ∧ i = .int .i64 k ∧ (k = 0 ∧ nm = ⟨#[]⟩ ∨ ∃ q y, k = q + 1 ∧ ps[q]? = some y ∧ nm = y.name) ∧ checkPF nm (ps.drop k) = checkPF ⟨#[]⟩ ps ∧ Below w.heap.size w wr)
      (fun i _ => ps.length - (intOf i).toNat)
    case atStart => exact ⟨0, ⟨#[]⟩, Nat.zero_le _, rfl, Or.inl ⟨rfl, rfl⟩, by simp, Below.refl _ _⟩
    case round =>
      obtain ⟨k, nm, hk, rfl, hnm, heq, hb⟩ := hrel
      have HE : Hid (checkPF nm (ps.drop k) = checkPF ⟨#[]⟩ ps) := heq
      have HN : Hid (k = 0 ∧ nm = ⟨#[]⟩ ∨ ∃ q y, k = q + 1 ∧ ps[q]? = some y ∧ nm = y.name) := hnm
      clear heq hnm
      by_cases hlt : k < ps.length
      · obtain ⟨b, off, rfl, hbB, hc⟩ := h4 (by omega)
        have HC : Hid (∀ (i : Nat) (x : PairD), ps[i]? = some x → PairAt wr b (off + i * 3) x) := fun i x hx => (hc i x hx).below (by omega) hb
        obtain ⟨x, hx⟩ : ∃ x, ps[k]? = some x := ⟨_, List.getElem?_eq_getElem hlt⟩
        have HX : Hid (ps.drop k = x :: ps.drop (k + 1)) := pdrop_cons hx
        have HXK : Hid (ps[k]? = some x) := hx
        obtain ⟨c0, c1, c2, hs0, hs1⟩ := HC.out k x hx
        have hsz := hb.size
        clear hx hc h4
        obtain ⟨xn, xv, xe⟩ := x
        simp only at c0 c1 c2 hs0 hs1
        have HF : Hid (checkPF nm (ps.drop k) = if nameB xn = false then 4 else if 12 < xv.size then 1 else if xe < 1 ∨ 1073741824 < xe then 2 else if leP xn nm = true then 14 else checkPF xn (ps.drop (k + 1))) := by
          unfold Hid; rw [HX.out]; rfl
        clear HX
        have HB := phid hb
        clear hb
        go_wp2_with fail
        refine (nameMay_any xn _ (by omega)).mono ?_
        rintro e w1 ⟨rfl, rfl⟩
        cases hform : nameB xn with
        | false =>
          rw [hform] at HF
          go_wp2
          go_ret
          exact ⟨pret_i64 (by rw [← HE.out, HF.out]; rfl), HB.out⟩
        | true =>
          rw [hform] at HF
          by_cases f0 : 12 < xv.size
          · go_wp2
            go_ret
            exact ⟨pret_i64 (by rw [← HE.out, HF.out]; simp [f0]), HB.out⟩
          · by_cases f1 : xe < 1
            · have C := in_low xe 1 1073741824 w1 f1
              go_wp2_with fail
              refine C.mono ?_
              rintro e w1 ⟨rfl, rfl⟩
              go_wp2
              go_ret
              exact ⟨pret_i64 (by rw [← HE.out, HF.out]; simp [f0, f1]), HB.out⟩
            · by_cases f2 : 1073741824 < xe
              · have C := in_high xe 1 1073741824 w1 f2
                go_wp2_with fail
                refine C.mono ?_
                rintro e w1 ⟨rfl, rfl⟩
                go_wp2
                go_ret
                exact ⟨pret_i64 (by rw [← HE.out, HF.out]; simp [f0, f2]), HB.out⟩
              · have HF2 : Hid (checkPF nm (ps.drop k) = if leP xn nm = true then 14 else checkPF xn (ps.drop (k + 1))) := by
                  unfold Hid; rw [HF.out, if_neg (by simp), if_neg f0, if_neg (by omega)]
                clear HF
                have C := in_yes xe 1 1073741824 w1 (by omega) (by omega)
                rcases HN.out with ⟨rfl, rfl⟩ | ⟨q, y, rfl, hy, rfl⟩
                · have HF3 : Hid (checkPF ⟨#[]⟩ (ps.drop 0) = checkPF xn (ps.drop (0 + 1))) := by
                    unfold Hid; rw [HF2.out, leP_empty hform]; rfl
                  clear HN
                  go_wp2_with fail
                  refine C.mono ?_
                  rintro e w1 ⟨rfl, rfl⟩
                  go_wp2_with fail
                  go_quiet (fail)
                  go_wp2
                  go_roundw
                  case rel => exact ⟨1, xn, by omega, rfl, Or.inr ⟨0, _, rfl, HXK.out, rfl⟩, by rw [← HE.out, HF3.out], by first | exact HB.out.trans (pairs_drewN_below _ _ _) | exact (HB.out.trans (pairs_drewN_below _ _ _)).trans (pairs_drewN_below _ _ _)⟩
                  case measure => simp [intOf]; omega
                · obtain ⟨d0, -⟩ := HC.out q y hy
                  obtain ⟨yn, yv, ye⟩ := y
                  simp only at d0 HF2 HE
                  have hq : q < ps.length := by omega
                  clear HN HC
                  cases hle : leP xn yn with
                  | true =>
                    rw [hle] at HF2
                    have hle2 : (Op.bytesLess xn.toList yn.toList || xn.toList == yn.toList) = true := hle
                    clear hle
                    go_wp2_with fail
                    refine C.mono ?_
                    rintro e w1 ⟨rfl, rfl⟩
                    go_wp2_with fail
                    go_quiet (fail)
                    go_wp2
                    go_ret
                    exact ⟨pret_i64 (by rw [← HE.out, HF2.out]; rfl), by first | exact HB.out.trans (pairs_drewN_below _ _ _) | exact (HB.out.trans (pairs_drewN_below _ _ _)).trans (pairs_drewN_below _ _ _)⟩
                  | false =>
                    rw [hle] at HF2
                    have hle2 : (Op.bytesLess xn.toList yn.toList || xn.toList == yn.toList) = false := hle
                    clear hle
                    go_wp2_with fail
                    refine C.mono ?_
                    rintro e w1 ⟨rfl, rfl⟩
                    go_wp2_with fail
                    go_quiet (fail)
                    go_wp2
                    go_roundw
                    case rel => exact ⟨q + 1 + 1, xn, by omega, by go_num, Or.inr ⟨q + 1, _, rfl, HXK.out, rfl⟩, by rw [← HE.out, HF2.out]; rfl, by first | exact HB.out.trans (pairs_drewN_below _ _ _) | exact (HB.out.trans (pairs_drewN_below _ _ _)).trans (pairs_drewN_below _ _ _)⟩
                    case measure => simp [intOf]; omega
      · go_wp2
        go_ret
        exact ⟨pret_i64 (by rw [← HE.out, List.drop_of_length_le (by omega)]; rfl), hb⟩
end Go.Proofs.Ytkjahjknmfjmkaf
