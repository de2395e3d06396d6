/- lock.Check: what is wrong with locks. -/
import Derived.Test.YtkjahjknmfjmkafLockInForm
import Derived.Laws.Cover1
namespace Go.Proofs.Ytkjahjknmfjmkaf
open Go.RowKit

theorem drop_cons {α : Type} {l : List α} {k : Nat} {x : α} (h : l[k]? = some x) : l.drop k = x :: l.drop (k + 1) := by
  obtain ⟨hk, he⟩ := List.getElem?_eq_some_iff.1 h
  rw [List.drop_eq_getElem_cons hk, he]

theorem ret_i64 {a b : Int} (h : a = b) : Ending.returned (.int .i64 a) = .returned (.int .i64 b) := by rw [h]

theorem bcell {W w1 : World} (hb : Below W.heap.size W w1) : (∀ b o, b < W.heap.size → w1.cell? ⟨b, o, none⟩ = W.cell? ⟨b, o, none⟩) ∧ (∀ b o, b < W.heap.size → w1.frozen? ⟨b, o, none⟩ = W.frozen? ⟨b, o, none⟩) :=
  ⟨fun b o h => hb.cell (p := ⟨b, o, none⟩) h, fun b o h => hb.frozen (p := ⟨b, o, none⟩) h⟩

set_option maxHeartbeats 1600000 in
theorem check_any (v : Value) (ls : List LockD) (w : World) (B : Nat) (hv : LocksR w B v ls) (hB : B ≤ w.heap.size) :
    Calls Try.prog 42 #[v] w fun e w' => e = .returned (.int .i64 (checkL ls)) ∧ Below w.heap.size w w' := by
  obtain ⟨ao, cap, rfl, h1, h2, h3, h4⟩ := hv
  by_cases c1 : 5 < ls.length
  · have e1 : checkL ls = 1 := by simp [checkL, c1]
    rw [e1]
    clear e1
    go_enter Try.func42, Try.ntmps42
    go_wp2
    go_ret
    exact ⟨rfl, Below.refl _ _⟩
  · have e1 : checkL ls = checkFrom ⟨#[]⟩ ls := by simp [checkL, c1]
    rw [e1]
    clear e1
    go_enter Try.func42, Try.ntmps42
    go_wp2
    go_loopw [3, 11] (fun p i wr => ∃ (k : Nat) (nm : ByteArray), k ≤ ls.length ∧ i = .int .i64 k ∧ p = .string nm ∧ checkFrom nm (ls.drop k) = checkFrom ⟨#[]⟩ ls ∧ Below w.heap.size w wr)
      (fun _ i _ => ls.length - (intOf i).toNat)
    case atStart => exact ⟨0, ⟨#[]⟩, Nat.zero_le _, rfl, rfl, by simp, Below.refl _ _⟩
    case round =>
      obtain ⟨k, nm, hk, rfl, rfl, heq, hb⟩ := hrel
      have HE : Hid (checkFrom nm (ls.drop k) = checkFrom ⟨#[]⟩ ls) := heq
      clear heq
      by_cases hlt : k < ls.length
      · obtain ⟨b, off, rfl, hbB, hc⟩ := h4 (by omega)
        obtain ⟨x, hx⟩ : ∃ x, ls[k]? = some x := ⟨_, List.getElem?_eq_getElem hlt⟩
        have HX : Hid (ls.drop k = x :: ls.drop (k + 1)) := drop_cons hx
        obtain ⟨lv, c0, c1, c2, c3, hl, hs⟩ := (hc k x hx).below hbB hb hB
        have HL : Hid (∀ w', Below wr.heap.size wr w' → IntsR w' B lv x.line) := fun w' h => hl.below h (by have := hb.size; omega)
        obtain ⟨lo, lc, rfl, hl1, hl2, -⟩ := hl
        have hsz := hb.size
        clear hx hc h4
        obtain ⟨xn, xh, xf, xl⟩ := x
        simp only at c0 c1 c2 c3 hs HL hl1 hl2
        have HF : Hid (checkFrom nm (ls.drop k) = if formB ⟨xn, xh, xf, xl⟩ = false then 4 else if xf < 1 ∨ 1073741824 < xf then 2 else if leN xn nm = true then 14 else checkFrom xn (ls.drop (k + 1))) := by
          unfold Hid; rw [HX.out]; rfl
        clear HX
        go_wp2_with fail
        refine (inForm_any xn xh xf xl _ _ B (HL.out _ ((Below.refl _ _).alloc (Nat.le_refl _) _)) (by simp; omega) hs).mono ?_
        rintro e w1 ⟨rfl, hb1⟩
        have hb2 : Below w.heap.size w w1 := (hb.alloc hb.size _).trans (hb1.mono (by simp; omega))
        obtain ⟨hcc, hff⟩ := bcell hb1
        have hsz1 := hb1.size
        cases hform : formB ⟨xn, xh, xf, xl⟩ with
        | false =>
          rw [hform] at HF
          clear hb1
          go_wp2
          go_ret
          exact ⟨ret_i64 (by rw [← HE.out, HF.out]; rfl), hb2⟩
        | true =>
          rw [hform] at HF
          clear hb1
          by_cases f1 : xf < 1
          · go_wp2
            go_ret
            exact ⟨ret_i64 (by rw [← HE.out, HF.out]; simp [f1]), hb2⟩
          · by_cases f2 : 1073741824 < xf
            · go_wp2
              go_ret
              exact ⟨ret_i64 (by rw [← HE.out, HF.out]; simp [f2]), hb2⟩
            · have HF2 : Hid (checkFrom nm (ls.drop k) = if leN xn nm = true then 14 else checkFrom xn (ls.drop (k + 1))) := by
                unfold Hid; rw [HF.out, if_neg (by simp), if_neg (by omega)]
              clear HF
              cases hle : leN xn nm with
              | true =>
                rw [hle] at HF2
                have hle2 : (Op.bytesLess xn.toList nm.toList || xn.toList == nm.toList) = true := hle
                clear hle
                go_wp2
                go_ret
                exact ⟨ret_i64 (by rw [← HE.out, HF2.out]; rfl), hb2⟩
              | false =>
                rw [hle] at HF2
                have hle2 : (Op.bytesLess xn.toList nm.toList || xn.toList == nm.toList) = false := hle
                clear hle
                go_wp2
                go_roundw
                case rel => exact ⟨k + 1, xn, by omega, by go_num, rfl, by rw [← HE.out, HF2.out]; rfl, hb2⟩
                case measure => simp [intOf]; omega
      · go_wp2
        go_ret
        exact ⟨ret_i64 (by rw [← HE.out, List.drop_of_length_le (by omega)]; rfl), hb⟩
end Go.Proofs.Ytkjahjknmfjmkaf
