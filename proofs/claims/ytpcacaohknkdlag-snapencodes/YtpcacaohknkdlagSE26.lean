/- The document's LocksFault: what is wrong with locks; The document's repliesMay and SessionsFault (joined by program) -/
import Derived.Deep.DeepCutAuto
import Derived.Deep.CutBlock
import Derived.Deep.QuietTactic
import Derived.BigQuiet
import Derived.Test.YtpcacaohknkdlagSE08
import Derived.Test.YtpcacaohknkdlagSE10
import Derived.Test.YtpcacaohknkdlagSE06
namespace Go.Proofs.Ytpcacaohknkdlag

open Go.RowKit

/-- What is wrong with a lock ahead of its line. -/
def initB (x : LockD) : Bool := !nameB x.name || !decide (0 ≤ x.holder ∧ x.holder ≤ 9) || decide (3 < x.line.length) || decide (x.holder = 0 ∧ 0 < x.line.length)

/-- What is wrong with a lock, its line looked at up to j. -/
def badUpto (x : LockD) (j : Nat) : Bool := initB x || (List.range j).any (badB x.line x.holder)

theorem badUpto_zero (x : LockD) : badUpto x 0 = initB x := by simp [badUpto]

theorem badUpto_succ (x : LockD) (j : Nat) : badUpto x (j + 1) = (badUpto x j || badB x.line x.holder j) := by
  simp [badUpto, List.range_succ, Bool.or_assoc]

theorem badUpto_all (x : LockD) : badUpto x x.line.length = !formB x := by
  unfold badUpto initB formB lineB
  have e : (List.range x.line.length).any (badB x.line x.holder) = !((List.range x.line.length).all fun i => !badB x.line x.holder i) := by
    rw [List.not_all_eq_any_not]; simp
  have e2 : decide (x.line.length ≤ 3 ∧ ¬ (x.holder = 0 ∧ 0 < x.line.length)) = (!decide (3 < x.line.length) && !decide (x.holder = 0 ∧ 0 < x.line.length)) := by
    rw [Bool.eq_iff_iff]; simp
  rw [e, e2]
  cases nameB x.name <;> cases decide (0 ≤ x.holder ∧ x.holder ≤ 9) <;> cases decide (3 < x.line.length) <;> cases decide (x.holder = 0 ∧ 0 < x.line.length) <;> simp

/-- A callee that draws nothing, in a world that has drawn. -/
theorem quiet_at {P : Program} {f : FuncId} {args : Array Value} {v : Value} {X : Nat → World} (n : Nat) (h : Calls P f args (X n) fun e w' => e = .returned v ∧ w' = X n) :
    Calls P f args (X n) fun e w'' => e = .returned v ∧ ∃ m, w'' = X m := h.mono fun _ _ ⟨he, hm⟩ => ⟨he, n, hm⟩

theorem initB_name {x : LockD} (h : nameB x.name = false) : initB x = true := by simp [initB, h]

theorem initB_holder {x : LockD} (h : x.holder < 0 ∨ 9 < x.holder) : initB x = true := by
  have : decide (0 ≤ x.holder ∧ x.holder ≤ 9) = false := decide_eq_false (by omega)
  simp [initB, this]

theorem initB_long {x : LockD} (h : 3 < x.line.length) : initB x = true := by simp [initB, h]

theorem initB_free {x : LockD} (h : x.holder = 0) (h' : 0 < x.line.length) : initB x = true := by simp [initB, h, h']

theorem initB_ok {x : LockD} (hn : nameB x.name = true) (h1 : 0 ≤ x.holder) (h2 : x.holder ≤ 9) (h3 : ¬ 3 < x.line.length) (h4 : ¬ (x.holder = 0 ∧ 0 < x.line.length)) : initB x = false := by
  have e1 : decide (0 ≤ x.holder ∧ x.holder ≤ 9) = true := decide_eq_true ⟨h1, h2⟩
  have e3 : decide (3 < x.line.length) = false := decide_eq_false h3
  have e4 : decide (x.holder = 0 ∧ 0 < x.line.length) = false := decide_eq_false h4
  simp only [initB, hn, e1, e3, e4]
  rfl

theorem badB_client {xs : List Int} {h y : Int} {j : Nat} (hy : xs[j]? = some y) (hb : y < 1 ∨ 9 < y) : badB xs h j = true := by
  have : decide (1 ≤ y ∧ y ≤ 9) = false := decide_eq_false (by omega)
  simp [badB, hy, this]

theorem badB_holder {xs : List Int} {h y : Int} {j : Nat} (hy : xs[j]? = some y) (hb : y = h) : badB xs h j = true := by
  simp [badB, hy, hb]

theorem badB_has {xs : List Int} {h y : Int} {j : Nat} (hy : xs[j]? = some y) (h1 : 1 ≤ y) (h2 : y ≤ 9) (h3 : ¬ y = h) : badB xs h j = hasB y (xs.take j) := by
  have e1 : decide (1 ≤ y ∧ y ≤ 9) = true := decide_eq_true ⟨h1, h2⟩
  simp [badB, hy, e1, h3]

theorem leN_empty {a : ByteArray} (h : nameB a = true) : leN a ⟨#[]⟩ = false := by
  obtain ⟨h1, _, _⟩ := nameB_yes h
  have e : (⟨#[]⟩ : ByteArray).toList = [] := by rw [ByteArray.toList_eq]
  unfold leN
  rw [e]
  have ha : a.toList ≠ [] := by
    rw [ByteArray.toList_eq]
    intro hn
    have := congrArg List.length hn
    simp at this
    have h2 : a.size = 0 := by
      rw [← ByteArray.size_data]; simpa using this
    omega
  cases hl : a.toList with
  | nil => exact absurd hl ha
  | cons c t => simp [Op.bytesLess]

set_option maxRecDepth 100000 in
set_option maxHeartbeats 3200000 in
theorem locksFault_any (v : Value) (ls : List LockD) (w : World) (B : Nat) (hv : LocksR w B v ls) (hB : B ≤ w.heap.size) :
    Calls Try.prog 47 #[v] w fun e w' => e = .returned (.int .i64 (checkL ls)) ∧ Below w.heap.size w w' := by
  obtain ⟨ao, cap, rfl, h1, h2, h3, h4⟩ := hv
  by_cases c1 : 5 < ls.length
  · have e1 : checkL ls = 1 := by simp [checkL, c1]
    rw [e1]
    clear e1
    go_enter Try.func47, Try.ntmps47
    go_wp2
    go_ret
    exact ⟨rfl, Below.refl _ _⟩
  · have e1 : checkL ls = checkFrom ⟨#[]⟩ ls := by simp [checkL, c1]
    rw [e1]
    clear e1
    go_enter Try.func47, Try.ntmps47
    go_wp2
    go_loopw [3] (fun i wr => ∃ (k : Nat) (nm : ByteArray), k ≤ ls.length ∧ i = .int .i64 k ∧ (k = 0 ∧ nm = ⟨#[]⟩ ∨ ∃ q y, k = q + 1 ∧ ls[q]? = some y ∧ nm = y.name) ∧ checkFrom nm (ls.drop k) = checkFrom ⟨#[]⟩ ls ∧ Below w.heap.size w wr)
      (fun i _ => ls.length - (intOf i).toNat)
    case atStart => exact ⟨0, ⟨#[]⟩, Nat.zero_le _, rfl, Or.inl ⟨rfl, rfl⟩, by simp, Below.refl _ _⟩
    case round =>
      obtain ⟨k, nm, hk, rfl, hnm, heq, hb⟩ := hrel
      have HE : Hid (checkFrom nm (ls.drop k) = checkFrom ⟨#[]⟩ ls) := heq
      have HN : Hid (k = 0 ∧ nm = ⟨#[]⟩ ∨ ∃ q y, k = q + 1 ∧ ls[q]? = some y ∧ nm = y.name) := hnm
      clear heq hnm
      by_cases hlt : k < ls.length
      · obtain ⟨b, off, rfl, hbB, hc⟩ := h4 (by omega)
        have HC : Hid (∀ i x, ls[i]? = some x → LockAt wr B b (off + i * 4) x) := fun i x hx => (hc i x hx).below hbB hb hB
        obtain ⟨x, hx⟩ : ∃ x, ls[k]? = some x := ⟨_, List.getElem?_eq_getElem hlt⟩
        have HX : Hid (ls.drop k = x :: ls.drop (k + 1)) := drop_cons hx
        have HXK : Hid (ls[k]? = some x) := hx
        obtain ⟨lv, c0, c1, c2, c3, hl, hs⟩ := HC.out k x hx
        have HL : Hid (∀ w', Below wr.heap.size wr w' → IntsR w' B lv x.line) := fun w' h => hl.below h (by have := hb.size; omega)
        obtain ⟨lo, lc, rfl, hl1, hl2, hl3, hl4⟩ := hl
        have hsz := hb.size
        clear hx hc h4
        obtain ⟨xn, xh, xf, xl⟩ := x
        simp only at c0 c1 c2 c3 hs HL hl1 hl2 hl4
        have HF : Hid (checkFrom nm (ls.drop k) = if formB ⟨xn, xh, xf, xl⟩ = false then 4 else if xf < 1 ∨ 1073741824 < xf then 2 else if leN xn nm = true then 14 else checkFrom xn (ls.drop (k + 1))) := by
          unfold Hid; rw [HX.out]; rfl
        clear HX
        have H4 : Hid (0 < xl.length → ∃ b off, lo = some ⟨b, off, none⟩ ∧ b < B ∧ ∀ i x, xl[i]? = some x → wr.cell? ⟨b, off + i, none⟩ = some (.int .i64 x)) := hl4
        clear hl4
        go_upto_region 7 with fail
        go_cut [5] (fun c wx => c = .bool (initB ⟨xn, xh, xf, xl⟩) ∧ wx = (wr.alloc (.cells #[.string xn, .int .i64 xh, .int .i64 xf, .slice lo xl.length lc] 55)))
        case first =>
          cases hn : nameB xn with
          | false =>
            have HI := Hid.mk' (initB_name (x := ⟨xn, xh, xf, xl⟩) hn)
            go_wp2_with fail
            refine (nameMay_any xn _ (by omega)).mono ?_
            rintro e w1 ⟨rfl, rfl⟩
            rw [hn]
            go_wp2
            go_meet
            exact ⟨congrArg Value.bool (by rw [HI.out]; try exact decide_eq_false (by omega)), rfl⟩
          | true =>
            by_cases r1 : xh < 0
            · have HI := Hid.mk' (initB_holder (x := ⟨xn, xh, xf, xl⟩) (Or.inl r1))
              go_wp2_with fail
              refine (nameMay_any xn _ (by omega)).mono ?_
              rintro e w1 ⟨rfl, rfl⟩
              rw [hn]
              go_wp2_with fail
              refine (in_low xh 0 9 _ r1).mono ?_
              rintro e w1 ⟨rfl, rfl⟩
              go_wp2
              go_meet
              exact ⟨congrArg Value.bool (by rw [HI.out]; try exact decide_eq_false (by omega)), rfl⟩
            · by_cases r2 : 9 < xh
              · have HI := Hid.mk' (initB_holder (x := ⟨xn, xh, xf, xl⟩) (Or.inr r2))
                go_wp2_with fail
                refine (nameMay_any xn _ (by omega)).mono ?_
                rintro e w1 ⟨rfl, rfl⟩
                rw [hn]
                go_wp2_with fail
                refine (in_high xh 0 9 _ r2).mono ?_
                rintro e w1 ⟨rfl, rfl⟩
                go_wp2
                go_meet
                exact ⟨congrArg Value.bool (by rw [HI.out]; try exact decide_eq_false (by omega)), rfl⟩
              · have r3 : 0 ≤ xh := by omega
                have r4 : xh ≤ 9 := by omega
                by_cases r5 : 3 < xl.length
                · have HI := Hid.mk' (initB_long (x := ⟨xn, xh, xf, xl⟩) r5)
                  go_wp2_with fail
                  refine (nameMay_any xn _ (by omega)).mono ?_
                  rintro e w1 ⟨rfl, rfl⟩
                  rw [hn]
                  go_wp2_with fail
                  refine (in_yes xh 0 9 _ r3 r4).mono ?_
                  rintro e w1 ⟨rfl, rfl⟩
                  go_wp2
                  go_meet
                  exact ⟨congrArg Value.bool (by rw [HI.out]; try exact decide_eq_false (by omega)), rfl⟩
                · by_cases r6 : xh = 0
                  · subst r6
                    by_cases r7 : 0 < xl.length
                    · have HI := Hid.mk' (initB_free (x := ⟨xn, 0, xf, xl⟩) rfl r7)
                      go_wp2_with fail
                      refine (nameMay_any xn _ (by omega)).mono ?_
                      rintro e w1 ⟨rfl, rfl⟩
                      rw [hn]
                      go_wp2_with fail
                      refine (in_yes 0 0 9 _ r3 r4).mono ?_
                      rintro e w1 ⟨rfl, rfl⟩
                      go_wp2
                      go_meet
                      exact ⟨congrArg Value.bool (by rw [HI.out]; try exact decide_eq_false (by omega)), rfl⟩
                    · have HI := Hid.mk' (initB_ok (x := ⟨xn, 0, xf, xl⟩) hn r3 r4 r5 (fun h => r7 h.2))
                      go_wp2_with fail
                      refine (nameMay_any xn _ (by omega)).mono ?_
                      rintro e w1 ⟨rfl, rfl⟩
                      rw [hn]
                      go_wp2_with fail
                      refine (in_yes 0 0 9 _ r3 r4).mono ?_
                      rintro e w1 ⟨rfl, rfl⟩
                      go_wp2
                      go_meet
                      exact ⟨congrArg Value.bool (by rw [HI.out]; try exact decide_eq_false (by omega)), rfl⟩
                  · have HI := Hid.mk' (initB_ok (x := ⟨xn, xh, xf, xl⟩) hn r3 r4 r5 (fun h => r6 h.1))
                    go_wp2_with fail
                    refine (nameMay_any xn _ (by omega)).mono ?_
                    rintro e w1 ⟨rfl, rfl⟩
                    rw [hn]
                    go_wp2_with fail
                    refine (in_yes xh 0 9 _ r3 r4).mono ?_
                    rintro e w1 ⟨rfl, rfl⟩
                    go_wp2
                    go_meet
                    exact ⟨congrArg Value.bool (by rw [HI.out]; try exact decide_eq_false (by omega)), rfl⟩
        case rest =>
          obtain ⟨rfl, rfl⟩ := hcut
          have HALL := Hid.mk' (badUpto_all ⟨xn, xh, xf, xl⟩)
          have HSUC := Hid.mk' (badUpto_succ ⟨xn, xh, xf, xl⟩)
          have HZER := Hid.mk' (badUpto_zero ⟨xn, xh, xf, xl⟩)
          go_wp2_with fail
          go_loopw [5, 6] (fun c jv wi => ∃ (j n : Nat), j ≤ xl.length ∧ jv = .int .i64 j ∧ c = .bool (badUpto ⟨xn, xh, xf, xl⟩ j) ∧ wi = (wr.alloc (.cells #[.string xn, .int .i64 xh, .int .i64 xf, .slice lo xl.length lc] 55)).drewN n)
            (fun _ jv _ => xl.length - (intOf jv).toNat)
          case atStart => exact ⟨0, 0, Nat.zero_le _, rfl, by rw [HZER.out], rfl⟩
          case round =>
            obtain ⟨j, n, hj, rfl, rfl, rfl⟩ := hrel
            by_cases hjl : j < xl.length
            · obtain ⟨lb, lf, rfl, hlB, hlc⟩ := H4.out (by omega)
              obtain ⟨y, hy⟩ : ∃ y, xl[j]? = some y := ⟨_, List.getElem?_eq_getElem hjl⟩
              have hcell := hlc j y hy
              have hlr : lb < wr.heap.size := by omega
              have hjc : j ≤ lc := by omega
              have HY : Hid (xl[j]? = some y) := hy
              have HT : Hid (∀ m, IntsR ((wr.alloc (.cells #[.string xn, .int .i64 xh, .int .i64 xf, .slice (some ⟨lb, lf, none⟩) xl.length lc] 55)).drewN m) B (.slice (some ⟨lb, lf, none⟩) j lc) (xl.take j)) := fun m =>
                ints_take hj hl1 hl2 hlB (fun i x hx => ((((Below.refl wr.heap.size wr).alloc (Nat.le_refl _) _).trans (drewN_below _ _ m)).cell (p := ⟨lb, lf + i, none⟩) hlr).trans (hlc i x hx))
              clear hy hlc H4 HL HN HE HF HC HXK HALL HZER
              go_upto_block 3 with fail
              go_cut [5] (fun c wx => c = .bool (badUpto ⟨xn, xh, xf, xl⟩ (j + 1)) ∧ ∃ m, wx = (wr.alloc (.cells #[.string xn, .int .i64 xh, .int .i64 xf, .slice (some ⟨lb, lf, none⟩) xl.length lc] 55)).drewN m)
              case first =>
                cases hbad : badUpto ⟨xn, xh, xf, xl⟩ j with
                | true =>
                  have HR : Hid (badUpto ⟨xn, xh, xf, xl⟩ (j + 1) = true) := by unfold Hid; rw [HSUC.out, hbad]; rfl
                  clear hbad
                  go_wp2_with fail
                  go_quiet (fail)
                  go_wp2
                  go_meet
                  exact ⟨congrArg Value.bool HR.out.symm, _, World.drewN_drewN _ _ _⟩
                | false =>
                  by_cases y1 : y < 1
                  · have HR : Hid (badUpto ⟨xn, xh, xf, xl⟩ (j + 1) = true) := by unfold Hid; rw [HSUC.out, badB_client HY.out (Or.inl y1)]; simp
                    clear hbad
                    go_wp2_with fail
                    go_quiet ((go_at_call 73; exact quiet_at _ (in_low y 1 9 _ y1)))
                    go_wp2
                    go_meet
                    exact ⟨congrArg Value.bool HR.out.symm, _, World.drewN_drewN _ _ _⟩
                  · by_cases y2 : 9 < y
                    · have HR : Hid (badUpto ⟨xn, xh, xf, xl⟩ (j + 1) = true) := by unfold Hid; rw [HSUC.out, badB_client HY.out (Or.inr y2)]; simp
                      clear hbad
                      go_wp2_with fail
                      go_quiet ((go_at_call 73; exact quiet_at _ (in_high y 1 9 _ y2)))
                      go_wp2
                      go_meet
                      exact ⟨congrArg Value.bool HR.out.symm, _, World.drewN_drewN _ _ _⟩
                    · have y3 : 1 ≤ y := by omega
                      have y4 : y ≤ 9 := by omega
                      by_cases y5 : y = xh
                      · have HR : Hid (badUpto ⟨xn, xh, xf, xl⟩ (j + 1) = true) := by unfold Hid; rw [HSUC.out, badB_holder HY.out y5]; simp
                        subst y5
                        clear hbad
                        go_wp2_with fail
                        go_quiet ((go_at_call 73; exact quiet_at _ (in_yes y 1 9 _ y3 y4)))
                        go_wp2
                        go_meet
                        exact ⟨congrArg Value.bool HR.out.symm, _, World.drewN_drewN _ _ _⟩
                      · have HR : Hid (badUpto ⟨xn, xh, xf, xl⟩ (j + 1) = hasB y (xl.take j)) := by unfold Hid; rw [HSUC.out, badB_has HY.out y3 y4 y5, hbad]; simp
                        have y6 : (y == xh) = false := by simpa using y5
                        clear hbad
                        go_wp2_with fail
                        go_quiet (first | (go_at_call 73; exact quiet_at _ (in_yes y 1 9 _ y3 y4)) | (go_at_call 76; exact quiet_at _ (has_any _ _ y _ B (HT.out _))))
                        go_wp2
                        go_meet
                        exact ⟨congrArg Value.bool HR.out.symm, _, World.drewN_drewN _ _ _⟩
              case rest =>
                obtain ⟨rfl, m, rfl⟩ := hcut
                go_wp2
                go_roundw
                case rel => exact ⟨j + 1, m, by omega, by go_num, rfl, rfl⟩
                case measure => simp [intOf]; omega
            · have hjx : j = xl.length := by omega
              subst hjx
              clear hj hjl
              rw [HALL.out]
              clear HALL HSUC HZER
              have hb2 : Below w.heap.size w ((wr.alloc (.cells #[.string xn, .int .i64 xh, .int .i64 xf, .slice lo xl.length lc] 55)).drewN n) := (hb.alloc hb.size _).trans (drewN_below _ _ n)
              cases hform : formB ⟨xn, xh, xf, xl⟩ with
              | false =>
                rw [hform] at HF
                go_wp2
                go_ret
                exact ⟨ret_i64 (by rw [← HE.out, HF.out]; rfl), hb2⟩
              | true =>
                rw [hform] at HF
                by_cases f1 : xf < 1
                · go_wp2_with fail
                  refine (in_low xf 1 1073741824 _ f1).mono ?_
                  rintro e w1 ⟨rfl, rfl⟩
                  go_wp2
                  go_ret
                  exact ⟨ret_i64 (by rw [← HE.out, HF.out]; simp [f1]), hb2⟩
                · by_cases f2 : 1073741824 < xf
                  · go_wp2_with fail
                    refine (in_high xf 1 1073741824 _ f2).mono ?_
                    rintro e w1 ⟨rfl, rfl⟩
                    go_wp2
                    go_ret
                    exact ⟨ret_i64 (by rw [← HE.out, HF.out]; simp [f2]), hb2⟩
                  · have HF2 : Hid (checkFrom nm (ls.drop k) = if leN xn nm = true then 14 else checkFrom xn (ls.drop (k + 1))) := by
                      unfold Hid; rw [HF.out, if_neg (by simp), if_neg (by omega)]
                    clear HF
                    rcases HN.out with ⟨hk0, hnm0⟩ | ⟨q, z, hkq, hz, hnmz⟩
                    · subst hk0
                      subst hnm0
                      have hname : nameB xn = true := by
                        cases hq : nameB xn with
                        | true => rfl
                        | false => rw [formB_name (x := ⟨xn, xh, xf, xl⟩) hq] at hform; cases hform
                      have hle := leN_empty hname
                      rw [hle] at HF2
                      clear hname hform HN
                      go_wp2_with fail
                      refine (in_yes xf 1 1073741824 _ (by omega) (by omega)).mono ?_
                      rintro e w1 ⟨rfl, rfl⟩
                      go_wp2_with fail
                      go_quiet (fail)
                      go_wp2
                      go_roundw
                      case rel => exact ⟨1, xn, by omega, rfl, Or.inr ⟨0, _, rfl, HXK.out, rfl⟩, by rw [← HE.out, HF2.out]; rfl, by first | exact (hb.alloc hb.size _).trans (drewN_below _ _ _) | exact ((hb.alloc hb.size _).trans (drewN_below _ _ _)).trans (drewN_below _ _ _)⟩
                      case measure => simp [intOf]; omega
                    · subst hkq
                      subst hnmz
                      obtain ⟨zv, z0, -, -, -, -, -⟩ := HC.out q z hz
                      have hbr : b < wr.heap.size := by omega
                      cases hle : leN xn z.name with
                      | true =>
                        rw [hle] at HF2
                        have hle2 : (Op.bytesLess xn.toList z.name.toList || xn.toList == z.name.toList) = true := hle
                        clear hle hform HN
                        go_wp2_with fail
                        refine (in_yes xf 1 1073741824 _ (by omega) (by omega)).mono ?_
                        rintro e w1 ⟨rfl, rfl⟩
                        go_wp2_with fail
                        go_quiet (fail)
                        go_wp2
                        go_ret
                        exact ⟨ret_i64 (by rw [← HE.out, HF2.out]; rfl), by first | exact (hb.alloc hb.size _).trans (drewN_below _ _ _) | exact ((hb.alloc hb.size _).trans (drewN_below _ _ _)).trans (drewN_below _ _ _)⟩
                      | false =>
                        rw [hle] at HF2
                        have hle2 : (Op.bytesLess xn.toList z.name.toList || xn.toList == z.name.toList) = false := hle
                        clear hle hform HN
                        go_wp2_with fail
                        refine (in_yes xf 1 1073741824 _ (by omega) (by omega)).mono ?_
                        rintro e w1 ⟨rfl, rfl⟩
                        go_wp2_with fail
                        go_quiet (fail)
                        go_wp2
                        go_roundw
                        case rel => exact ⟨q + 1 + 1, xn, by omega, by go_num, Or.inr ⟨q + 1, _, rfl, HXK.out, rfl⟩, by rw [← HE.out, HF2.out]; rfl, by first | exact (hb.alloc hb.size _).trans (drewN_below _ _ _) | exact ((hb.alloc hb.size _).trans (drewN_below _ _ _)).trans (drewN_below _ _ _)⟩
                        case measure => simp [intOf]; omega
      · go_wp2
        go_ret
        exact ⟨ret_i64 (by rw [← HE.out, List.drop_of_length_le (by omega)]; rfl), hb⟩

end Go.Proofs.Ytpcacaohknkdlag

namespace Go.Proofs.Ytpcacaohknkdlag

open Go.RowKit

theorem in_no (n a b : Int) (w : World) (h : n < a ∨ b < n) :
    Calls Try.prog 73 #[.int .i64 n, .int .i64 a, .int .i64 b] w fun e w' => e = .returned (.bool false) ∧ w' = w := by
  rcases h with h | h
  · exact in_low n a b w h
  · exact in_high n a b w h

set_option maxRecDepth 100000 in
set_option maxHeartbeats 3200000 in
theorem repliesMay_any (c d a t : Int) (lv : Value) (ks : List KeptD) (w : World) (B : Nat) (hv : KeptsR w B lv ks) (hB : B ≤ w.heap.size) (ha0 : 0 ≤ a) (ha1 : a ≤ 1048576) :
    Calls Try.prog 74 #[.agg #[.int .i64 c, .int .i64 d, .int .i64 a, .int .i64 t, lv]] w fun e w' => e = .returned (.bool (formFrom a a ks)) ∧ Below w.heap.size w w' := by
  obtain ⟨ao, cap, rfl, h1, h2, h3, h4⟩ := hv
  obtain ⟨W1, hW1⟩ : ∃ W1, W1 = w.alloc (.cells #[.int .i64 c, .int .i64 d, .int .i64 a, .int .i64 t, .slice ao ks.length cap] 60) := ⟨_, rfl⟩
  have hb0 : Below w.heap.size w W1 := by rw [hW1]; exact (Below.refl _ _).alloc (Nat.le_refl _) _
  have hg0 : W1.heap[w.heap.size]? = some (.cells #[.int .i64 c, .int .i64 d, .int .i64 a, .int .i64 t, .slice ao ks.length cap] 60 (0, 0)) := by rw [hW1]; exact heap_alloc_new w _
  have hz0 : W1.heap.size = w.heap.size + 1 := by rw [hW1]; simp
  have HB0 := ghid hb0
  have HG0 := ghid hg0
  go_enter Try.func74, Try.ntmps74
  go_wp2
  rw [← hW1]
  clear hW1 hb0 hg0
  go_loopw [3, 4] (fun s i wr => ∃ (k : Nat) (hd : Int), k ≤ ks.length ∧ s = .int .i64 hd ∧ i = .int .i64 k ∧ Hid (formFrom a hd (ks.drop k) = formFrom a a ks) ∧ a ≤ hd ∧ hd ≤ a + 4 ∧ Below (w.heap.size + 1) W1 wr) (fun _ i _ => ks.length - (intOf i).toNat)
  case atStart => exact ⟨0, a, Nat.zero_le _, rfl, rfl, by simp [Hid], Int.le_refl _, by omega, Below.refl _ _⟩
  case round =>
    obtain ⟨k, hd, hk, rfl, rfl, HF, hd1, hd2, hb⟩ := hrel
    have hsz : w.heap.size + 1 ≤ wr.heap.size := by have := hb.size; omega
    have hba : Below w.heap.size w wr := HB0.out.trans (hb.mono (by omega))
    have HBA := ghid hba
    have xa : wr.cell? ⟨w.heap.size, 2, none⟩ = some (.int .i64 a) := cell_of_row wr w.heap.size 2 _ _ _ ((hb.block _ (by omega)).trans HG0.out)
    have xl : wr.cell? ⟨w.heap.size, 4, none⟩ = some (.slice ao ks.length cap) := cell_of_row wr w.heap.size 4 _ _ _ ((hb.block _ (by omega)).trans HG0.out)
    by_cases hlt : k < ks.length
    · obtain ⟨b, off, rfl, hbB, hc⟩ := h4 (by omega)
      obtain ⟨y, hy⟩ : ∃ y, ks[k]? = some y := ⟨_, List.getElem?_eq_getElem hlt⟩
      obtain ⟨c0, c1, c2, c3, hs⟩ := (hc k y hy).below (by omega) hba
      have HD : Hid (formFrom a hd (y :: ks.drop (k + 1)) = formFrom a a ks) := by unfold Hid; rw [← kdrop hy]; exact HF.out
      have HB := ghid hb
      clear hy hc h4 HF hb hba
      have hbr : b < wr.heap.size := by omega
      have hwr : w.heap.size < wr.heap.size := by omega
      obtain ⟨ys, yc, yn, yt⟩ := y
      simp only at c0 c1 c2 c3 hs
      by_cases q1 : hd + 1 ≤ ys ∧ ys ≤ a + 4
      · obtain ⟨q2, q3⟩ := q1
        by_cases q4 : replyB yc yn yt.size = true
        · have HN : Hid (formFrom a ys (ks.drop (k + 1)) = formFrom a a ks) := by
            have := HD.out
            unfold Hid
            rw [formFrom_cons] at this
            simp only [keptB, q4, decide_eq_true q2, decide_eq_true q3, Bool.true_and] at this
            exact this
          obtain ⟨m1, m2, m3, m4, m5⟩ := replyB_iff.1 q4
          clear q4 HD
          go_wp2_with fail
          refine (in_yes ys (hd + 1) (a + 4) _ q2 q3).mono ?_
          rintro e w1 ⟨rfl, hw⟩
          subst hw
          go_wp2_with fail
          refine (in_yes yc 0 15 _ m1 m2).mono ?_
          rintro e w1 ⟨rfl, hw⟩
          subst hw
          go_wp2_with fail
          refine (in_yes yn 0 1073741824 _ m3 m4).mono ?_
          rintro e w1 ⟨rfl, hw⟩
          subst hw
          go_wp2
          go_roundw
          case rel => exact ⟨k + 1, ys, by omega, rfl, by go_num, HN, by omega, by omega, HB.out.trans ((Below.refl _ _).alloc (by omega) _)⟩
          case measure => simp [intOf]; omega
        · have q5 : replyB yc yn yt.size = false := by simpa using q4
          have HN : Hid (formFrom a a ks = false) := by
            have := HD.out
            unfold Hid
            rw [formFrom_cons] at this
            simp only [keptB, q5, decide_eq_true q2, decide_eq_true q3, Bool.true_and, Bool.false_and] at this
            exact this.symm
          have q6 : ¬ (0 ≤ yc ∧ yc ≤ 15 ∧ 0 ≤ yn ∧ yn ≤ 1073741824 ∧ yt.size ≤ 12) := fun e => q4 (replyB_iff.2 e)
          clear q4 q5 HD
          by_cases m1 : 0 ≤ yc ∧ yc ≤ 15
          · by_cases m2 : 0 ≤ yn ∧ yn ≤ 1073741824
            · have m3 : ¬ yt.size ≤ 12 := by omega
              clear q6
              go_wp2_with fail
              refine (in_yes ys (hd + 1) (a + 4) _ q2 q3).mono ?_
              rintro e w1 ⟨rfl, hw⟩
              subst hw
              go_wp2_with fail
              refine (in_yes yc 0 15 _ m1.1 m1.2).mono ?_
              rintro e w1 ⟨rfl, hw⟩
              subst hw
              go_wp2_with fail
              refine (in_yes yn 0 1073741824 _ m2.1 m2.2).mono ?_
              rintro e w1 ⟨rfl, hw⟩
              subst hw
              go_wp2
              go_ret
              exact ⟨by rw [HN.out]; rfl, HBA.out.trans ((Below.refl _ _).alloc (by omega) _)⟩
            · have m3 : yn < 0 ∨ 1073741824 < yn := by omega
              clear q6 m2
              go_wp2_with fail
              refine (in_yes ys (hd + 1) (a + 4) _ q2 q3).mono ?_
              rintro e w1 ⟨rfl, hw⟩
              subst hw
              go_wp2_with fail
              refine (in_yes yc 0 15 _ m1.1 m1.2).mono ?_
              rintro e w1 ⟨rfl, hw⟩
              subst hw
              go_wp2_with fail
              refine (in_no yn 0 1073741824 _ m3).mono ?_
              rintro e w1 ⟨rfl, hw⟩
              subst hw
              go_wp2
              go_ret
              exact ⟨by rw [HN.out]; rfl, HBA.out.trans ((Below.refl _ _).alloc (by omega) _)⟩
          · have m3 : yc < 0 ∨ 15 < yc := by omega
            clear q6 m1
            go_wp2_with fail
            refine (in_yes ys (hd + 1) (a + 4) _ q2 q3).mono ?_
            rintro e w1 ⟨rfl, hw⟩
            subst hw
            go_wp2_with fail
            refine (in_no yc 0 15 _ m3).mono ?_
            rintro e w1 ⟨rfl, hw⟩
            subst hw
            go_wp2
            go_ret
            exact ⟨by rw [HN.out]; rfl, HBA.out.trans ((Below.refl _ _).alloc (by omega) _)⟩
      · have HN : Hid (formFrom a a ks = false) := by
          have := HD.out
          unfold Hid
          rw [formFrom_cons] at this
          by_cases q2 : hd + 1 ≤ ys
          · have q3 : ¬ ys ≤ a + 4 := fun e => q1 ⟨q2, e⟩
            simp only [decide_eq_true q2, decide_eq_false q3, Bool.true_and, Bool.false_and] at this
            exact this.symm
          · simp only [decide_eq_false q2, Bool.false_and] at this
            exact this.symm
        have q2 : ys < hd + 1 ∨ a + 4 < ys := by omega
        clear HD q1
        go_wp2_with fail
        refine (in_no ys (hd + 1) (a + 4) _ q2).mono ?_
        rintro e w1 ⟨rfl, hw⟩
        subst hw
        go_wp2
        go_ret
        exact ⟨by rw [HN.out]; rfl, HBA.out.trans ((Below.refl _ _).alloc (by omega) _)⟩
    · have HN : Hid (formFrom a a ks = true) := by
        have := HF.out
        unfold Hid
        rw [List.drop_of_length_le (by omega), formFrom_nil] at this
        exact this.symm
      have hwr : w.heap.size < wr.heap.size := by omega
      clear HF
      go_wp2
      go_ret
      exact ⟨by rw [HN.out]; rfl, hba⟩

end Go.Proofs.Ytpcacaohknkdlag
