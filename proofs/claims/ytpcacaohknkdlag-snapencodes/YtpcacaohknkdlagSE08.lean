/- lock.inForm: may the name, the holder and the line be those of a lock?; lock.Check: what is wrong with locks (joined by program) -/
import Derived.Laws.Cover1
import Derived.Test.YtpcacaohknkdlagSE07
namespace Go.Proofs.Ytpcacaohknkdlag

open Go.RowKit

theorem formB_name {x : LockD} (h : nameB x.name = false) : formB x = false := by simp [formB, h]

theorem formB_holder {x : LockD} (h : x.holder < 0 ∨ 9 < x.holder) : formB x = false := by
  have : decide (0 ≤ x.holder ∧ x.holder ≤ 9) = false := decide_eq_false (by omega)
  simp [formB, this]

theorem formB_line {x : LockD} (hn : nameB x.name = true) (h1 : 0 ≤ x.holder) (h2 : x.holder ≤ 9) : formB x = lineB x.line x.holder := by
  have : decide (0 ≤ x.holder ∧ x.holder ≤ 9) = true := decide_eq_true (by omega)
  simp [formB, hn, this]

set_option maxHeartbeats 800000 in
theorem inForm_any (nm : ByteArray) (hd fe : Int) (line : List Int) (lv : Value) (w : World) (B : Nat) (hl : IntsR w B lv line) (hB : B ≤ w.heap.size) (hs : nm.size ≤ 140737488351232) :
    Calls Try.prog 65 #[.agg #[.string nm, .int .i64 hd, .int .i64 fe, lv]] w fun e w' => e = .returned (.bool (formB ⟨nm, hd, fe, line⟩)) ∧ Below w.heap.size w w' := by
  have HL : Hid (∀ w', Below w.heap.size w w' → IntsR w' B lv line) := fun w' hb => hl.below hb hB
  obtain ⟨ao, cap, rfl, h1, h2, h3, h4⟩ := hl
  clear h4
  cases hn : nameB nm with
  | false =>
    rw [formB_name (x := ⟨nm, hd, fe, line⟩) hn]
    go_enter Try.func65, Try.ntmps65
    go_wp2_with fail
    refine (name_any nm _ (by omega)).mono ?_
    rintro e w1 ⟨rfl, rfl⟩
    rw [hn]
    go_wp2
    go_ret
    exact ⟨rfl, (Below.refl _ _).alloc (Nat.le_refl _) _⟩
  | true =>
    by_cases hr : hd < 0 ∨ 9 < hd
    · rw [formB_holder (x := ⟨nm, hd, fe, line⟩) hr]
      have h0 : ¬ hd = 0 := by omega
      have HC := fun w => isClient_no hd w (by omega)
      clear hr
      go_enter Try.func65, Try.ntmps65
      go_wp2_with fail
      refine (name_any nm _ (by omega)).mono ?_
      rintro e w1 ⟨rfl, rfl⟩
      rw [hn]
      go_wp2_with fail
      refine (HC _).mono ?_
      rintro e w1 ⟨rfl, rfl⟩
      go_wp2
      go_ret
      exact ⟨rfl, (Below.refl _ _).alloc (Nat.le_refl _) _⟩
    · rw [formB_line (x := ⟨nm, hd, fe, line⟩) hn (by simp; omega) (by simp; omega)]
      by_cases h0 : hd = 0
      · subst h0
        clear hr
        go_enter Try.func65, Try.ntmps65
        go_wp2_with fail
        refine (name_any nm _ (by omega)).mono ?_
        rintro e w1 ⟨rfl, rfl⟩
        rw [hn]
        go_wp2_with fail
        refine (line_any _ line 0 _ B (HL.out _ ((Below.refl _ _).alloc (Nat.le_refl _) _))).mono ?_
        rintro e w1 ⟨rfl, rfl⟩
        go_wp2
        go_ret
        exact ⟨rfl, (Below.refl _ _).alloc (Nat.le_refl _) _⟩
      · have h5 : 1 ≤ hd := by omega
        have h6 : hd ≤ 9 := by omega
        clear hr
        go_enter Try.func65, Try.ntmps65
        go_wp2_with fail
        refine (name_any nm _ (by omega)).mono ?_
        rintro e w1 ⟨rfl, rfl⟩
        rw [hn]
        go_wp2_with fail
        refine (isClient_yes hd _ h5 h6).mono ?_
        rintro e w1 ⟨rfl, rfl⟩
        go_wp2_with fail
        refine (line_any _ line hd _ B (HL.out _ ((Below.refl _ _).alloc (Nat.le_refl _) _))).mono ?_
        rintro e w1 ⟨rfl, rfl⟩
        go_wp2
        go_ret
        exact ⟨rfl, (Below.refl _ _).alloc (Nat.le_refl _) _⟩

end Go.Proofs.Ytpcacaohknkdlag

namespace Go.Proofs.Ytpcacaohknkdlag

open Go.RowKit

theorem drop_cons {α : Type} {l : List α} {k : Nat} {x : α} (h : l[k]? = some x) : l.drop k = x :: l.drop (k + 1) := by
  obtain ⟨hk, he⟩ := List.getElem?_eq_some_iff.1 h
  rw [List.drop_eq_getElem_cons hk, he]

theorem ret_i64 {a b : Int} (h : a = b) : Ending.returned (.int .i64 a) = .returned (.int .i64 b) := by rw [h]

theorem bcell {W w1 : World} (hb : Below W.heap.size W w1) : (∀ b o, b < W.heap.size → w1.cell? ⟨b, o, none⟩ = W.cell? ⟨b, o, none⟩) ∧ (∀ b o, b < W.heap.size → w1.frozen? ⟨b, o, none⟩ = W.frozen? ⟨b, o, none⟩) :=
  ⟨fun b o h => hb.cell (p := ⟨b, o, none⟩) h, fun b o h => hb.frozen (p := ⟨b, o, none⟩) h⟩

set_option maxHeartbeats 1600000 in
theorem check_any (v : Value) (ls : List LockD) (w : World) (B : Nat) (hv : LocksR w B v ls) (hB : B ≤ w.heap.size) :
    Calls Try.prog 37 #[v] w fun e w' => e = .returned (.int .i64 (checkL ls)) ∧ Below w.heap.size w w' := by
  obtain ⟨ao, cap, rfl, h1, h2, h3, h4⟩ := hv
  by_cases c1 : 5 < ls.length
  · have e1 : checkL ls = 1 := by simp [checkL, c1]
    rw [e1]
    clear e1
    go_enter Try.func37, Try.ntmps37
    go_wp2
    go_ret
    exact ⟨rfl, Below.refl _ _⟩
  · have e1 : checkL ls = checkFrom ⟨#[]⟩ ls := by simp [checkL, c1]
    rw [e1]
    clear e1
    go_enter Try.func37, Try.ntmps37
    go_wp2
    go_loopw [3, 11] (fun p i wr => ∃ (k : Nat) (nm : ByteArray), k ≤ ls.length ∧ i = .int .i64 k ∧ p = .string nm ∧ checkFrom nm (ls.drop k) = checkFrom ⟨#[]⟩ ls ∧ Below w.heap.size w wr)
      (fun _ i _ => ls.length - (intOf i).toNat)
    case atStart => exact ⟨0, ⟨#[]⟩, Nat.zero_le _, rfl, rfl, by simp, Below.refl _ _⟩
    case round =>
      obtain ⟨k, nm, hk, rfl, rfl, heq, hb⟩ := hrel
      have HE : Hid (checkFrom nm (ls.drop k) = checkFrom ⟨#[]⟩ ls) := heq
      clear heq
      by_cases hlt : k < ls.length
      · obtain ⟨b, off, rfl, hbB, hc⟩ := h4 (by omega)
        obtain ⟨x, hx⟩ : ∃ x, ls[k]? = some x := ⟨_, List.getElem?_eq_getElem hlt⟩
        have HX : Hid (ls.drop k = x :: ls.drop (k + 1)) := drop_cons hx
        obtain ⟨lv, c0, c1, c2, c3, hl, hs⟩ := (hc k x hx).below hbB hb hB
        have HL : Hid (∀ w', Below wr.heap.size wr w' → IntsR w' B lv x.line) := fun w' h => hl.below h (by have := hb.size; omega)
        obtain ⟨lo, lc, rfl, hl1, hl2, -⟩ := hl
        have hsz := hb.size
        clear hx hc h4
        obtain ⟨xn, xh, xf, xl⟩ := x
        simp only at c0 c1 c2 c3 hs HL hl1 hl2
        have HF : Hid (checkFrom nm (ls.drop k) = if formB ⟨xn, xh, xf, xl⟩ = false then 4 else if xf < 1 ∨ 1073741824 < xf then 2 else if leN xn nm = true then 14 else checkFrom xn (ls.drop (k + 1))) := by
          unfold Hid; rw [HX.out]; rfl
        clear HX
        go_wp2_with fail
        refine (inForm_any xn xh xf xl _ _ B (HL.out _ ((Below.refl _ _).alloc (Nat.le_refl _) _)) (by simp; omega) hs).mono ?_
        rintro e w1 ⟨rfl, hb1⟩
        have hb2 : Below w.heap.size w w1 := (hb.alloc hb.size _).trans (hb1.mono (by simp; omega))
        obtain ⟨hcc, hff⟩ := bcell hb1
        have hsz1 := hb1.size
        cases hform : formB ⟨xn, xh, xf, xl⟩ with
        | false =>
          rw [hform] at HF
          clear hb1
          go_wp2
          go_ret
          exact ⟨ret_i64 (by rw [← HE.out, HF.out]; rfl), hb2⟩
        | true =>
          rw [hform] at HF
          clear hb1
          by_cases f1 : xf < 1
          · go_wp2
            go_ret
            exact ⟨ret_i64 (by rw [← HE.out, HF.out]; simp [f1]), hb2⟩
          · by_cases f2 : 1073741824 < xf
            · go_wp2
              go_ret
              exact ⟨ret_i64 (by rw [← HE.out, HF.out]; simp [f2]), hb2⟩
            · have HF2 : Hid (checkFrom nm (ls.drop k) = if leN xn nm = true then 14 else checkFrom xn (ls.drop (k + 1))) := by
                unfold Hid; rw [HF.out, if_neg (by simp), if_neg (by omega)]
              clear HF
              cases hle : leN xn nm with
              | true =>
                rw [hle] at HF2
                have hle2 : (Op.bytesLess xn.toList nm.toList || xn.toList == nm.toList) = true := hle
                clear hle
                go_wp2
                go_ret
                exact ⟨ret_i64 (by rw [← HE.out, HF2.out]; rfl), hb2⟩
              | false =>
                rw [hle] at HF2
                have hle2 : (Op.bytesLess xn.toList nm.toList || xn.toList == nm.toList) = false := hle
                clear hle
                go_wp2
                go_roundw
                case rel => exact ⟨k + 1, xn, by omega, by go_num, rfl, by rw [← HE.out, HF2.out]; rfl, hb2⟩
                case measure => simp [intOf]; omega
      · go_wp2
        go_ret
        exact ⟨ret_i64 (by rw [← HE.out, List.drop_of_length_le (by omega)]; rfl), hb⟩

end Go.Proofs.Ytpcacaohknkdlag
