/- slices.IndexFunc over kept replies, with whatever closure; session.replyPlace. -/
import Derived.Test.YtmcdbdcabiccnafSessFind
namespace Go.Proofs.Ytmcdbdcabiccnaf
open Go.RowKit

/-- What is asked of a closure over kept replies. -/
def PredK (cl : Nat) (lb : Array Value) (p : KeptD → Bool) (ks : List KeptD) (S : Nat → Prop) (w : World) : Prop :=
  ∀ (x : KeptD) (w' : World), x ∈ ks → TouchG w w' S → Calls Try.prog cl (#[.agg #[.int .i64 x.seq, .int .i64 x.code, .int .i64 x.n, .string x.text]] ++ lb) w' fun e w'' => e = .returned (.bool (p x)) ∧ Below w'.heap.size w' w''

set_option maxHeartbeats 800000 in
theorem indexK (v : Value) (ls : List KeptD) (cl : Nat) (lb : Array Value) (p : KeptD → Bool) (S : Nat → Prop) (w : World) (B : Nat) (hv : KeptsR w B v ls) (hB : B ≤ w.heap.size) (eg : ∀ args w, (callFunc cl args).run Try.prog w = .ok (.enter cl args) w) (hp : PredK cl lb p ls S w) :
    Calls Try.prog 45 #[v, .func (.func cl) #[] lb] w fun e w' => e = .returned (.int .i64 (idxI p ls)) ∧ Below w.heap.size w w' := by
  obtain ⟨ao, cap, rfl, h1, h2, h3, h4⟩ := hv
  have HP := ghid hp
  clear hp
  go_enter Try.func45, Try.ntmps45
  go_wp2
  go_loopw [8] (fun i wr => ∃ k : Nat, k ≤ ls.length ∧ i = .int .i64 k ∧ Hid (∀ (j : Nat) (y : KeptD), j < k → ls[j]? = some y → p y = false) ∧ Below w.heap.size w wr) (fun i _ => ls.length - (intOf i).toNat)
  case atStart => exact ⟨0, Nat.zero_le _, rfl, fun j y hj => absurd hj (by omega), Below.refl _ _⟩
  case round =>
    obtain ⟨k, hk, rfl, HF, hb⟩ := hrel
    have hsz := hb.size
    by_cases hlt : k < ls.length
    · obtain ⟨b, off, rfl, hbB, hc⟩ := h4 (by omega)
      obtain ⟨x, hx⟩ : ∃ x, ls[k]? = some x := ⟨_, List.getElem?_eq_getElem hlt⟩
      obtain ⟨c0, c1, c2, c3, -⟩ := (hc k x hx).below (by omega) hb
      have HX := ghid hx
      have C := HP.out x wr (List.mem_of_getElem? hx) (TouchG.of_below hb (Nat.le_refl _) _)
      have HB := ghid hb
      clear hx hc h4 hb
      cases hq : p x with
      | true =>
        rw [hq] at C
        have HQ := ghid hq
        clear hq
        go_wp2_with fail
        refine C.mono ?_
        rintro e w1 ⟨rfl, hb1⟩
        have HB2 := ghid (HB.out.trans (hb1.mono hsz))
        clear hb1 C
        go_wp2
        go_ret
        exact ⟨sret_int (idxI_found HX.out HQ.out HF.out).1.symm, HB2.out⟩
      | false =>
        rw [hq] at C
        have HN : Hid (∀ (j : Nat) (y : KeptD), j < k + 1 → ls[j]? = some y → p y = false) := fun j y hj hy => by
          by_cases e : j = k
          · subst e
            have := HX.out.symm.trans hy
            simp only [Option.some.injEq] at this
            rw [← this]; exact hq
          · exact HF.out j y (by omega) hy
        clear hq
        go_wp2_with fail
        refine C.mono ?_
        rintro e w1 ⟨rfl, hb1⟩
        have HB2 := ghid (HB.out.trans (hb1.mono hsz))
        clear hb1 C
        go_wp2
        go_roundw
        case rel => exact ⟨k + 1, by omega, by go_num, HN, HB2.out⟩
        case measure => simp [intOf]; omega
    · have HN : Hid (∀ (j : Nat) (y : KeptD), ls[j]? = some y → p y = false) := fun j y hy => HF.out j y (by have := (List.getElem?_eq_some_iff.1 hy).1; omega) hy
      clear HF
      go_wp2
      go_ret
      exact ⟨sret_int (idxI_none HN.out).1.symm, hb⟩

theorem kplace1_any (s c n : Int) (t : ByteArray) (q : Int) (b0 : Nat) (w : World) (hc0 : w.cell? ⟨b0, 0, none⟩ = some (.int .i64 q)) (hb0 : b0 < w.heap.size) :
    Calls Try.prog 46 #[.agg #[.int .i64 s, .int .i64 c, .int .i64 n, .string t], .pointer (some ⟨b0, 0, none⟩)] w fun e w' => e = .returned (.bool (decide (q ≤ s))) ∧ Below w.heap.size w w' := by
  go_enter Try.func46, Try.ntmps46
  go_wp2
  go_ret
  exact ⟨rfl, (Below.refl _ _).alloc (Nat.le_refl _) _⟩

theorem placeK_found {ls : List KeptD} {q : Int} (h : placeK ls q < ls.length) : idxI (fun x => decide (q ≤ x.seq)) ls = placeK ls q := by
  unfold idxI
  rw [if_pos (by exact h)]
  rfl

theorem placeK_none {ls : List KeptD} {q : Int} (h : ¬ placeK ls q < ls.length) : idxI (fun x => decide (q ≤ x.seq)) ls = -1 := by
  unfold idxI
  rw [if_neg (by exact h)]

theorem placeK_le (ls : List KeptD) (q : Int) : placeK ls q ≤ ls.length := List.findIdx_le_length

set_option maxHeartbeats 1600000 in
theorem kplace_any (v : Value) (ls : List KeptD) (q : Int) (w : World) (B : Nat) (hv : KeptsR w B v ls) (hB : B ≤ w.heap.size) :
    Calls Try.prog 30 #[v, .int .i64 q] w fun e w' => e = .returned (.tuple #[.int .i64 (placeK ls q : Nat), .bool (thereK ls q)]) ∧ Below w.heap.size w w' := by
  have hlen := hv.len
  have hb0 : Below w.heap.size w (w.alloc (.cells #[.int .i64 q] 3)) := (Below.refl _ _).alloc (Nat.le_refl _) _
  have HC := ghid (indexK v ls 46 #[.pointer (some ⟨w.heap.size, 0, none⟩)] (fun x => decide (q ≤ x.seq)) (fun _ => False) _ B (hv.below hb0 hB) (by simp; omega) (enters_of Try.func46 (by decide) rfl) (fun x w' _ hw => by
    refine kplace1_any x.seq x.code x.n x.text q w.heap.size w' ?_ (by have := hw.size; simp at this; omega)
    exact (World.cell?_of_block (hw.block w.heap.size (by simp) (fun h => h))).trans (by simp)))
  by_cases hn : placeK ls q < ls.length
  · obtain ⟨x, hx⟩ : ∃ x, ls[placeK ls q]? = some x := ⟨_, List.getElem?_eq_getElem hn⟩
    have ht : thereK ls q = decide (x.seq = q) := by unfold thereK; rw [hx]
    rw [placeK_found hn] at HC
    obtain ⟨ao, cap, rfl, h1, h2, h3, h4⟩ := hv
    obtain ⟨b, off, rfl, hbB, hc⟩ := h4 (by omega)
    obtain ⟨c0, -⟩ := hc _ x hx
    have he : ∀ a b : Int, decide (a = b) = (a == b) := fun a b => by rw [Bool.eq_iff_iff]; simp
    rw [ht, he]
    clear he
    obtain ⟨n, hne⟩ : ∃ n, n = placeK ls q := ⟨_, rfl⟩
    rw [← hne] at HC hn c0 ⊢
    obtain ⟨xs, xc, xn, xt⟩ := x
    simp only at c0 ⊢
    clear hx ht h4 hc hne hb0
    go_enter Try.func30, Try.ntmps30
    go_wp2_with fail
    refine HC.out.mono ?_
    rintro e w1 ⟨rfl, hb1⟩
    have HB := ghid (((Below.refl w.heap.size w).alloc (Nat.le_refl _) (.cells #[.int .i64 q] 3)).trans (hb1.mono (by simp)))
    have d0 : w1.cell? ⟨b, off + n * 4, none⟩ = some (.int .i64 xs) := (HB.out.cell (p := ⟨b, off + n * 4, none⟩) (by show b < w.heap.size; omega)).trans c0
    have d1 : w1.cell? ⟨w.heap.size, 0, none⟩ = some (.int .i64 q) := (hb1.cell (p := ⟨w.heap.size, 0, none⟩) (by simp)).trans (by simp)
    have hz1 : w.heap.size < w1.heap.size := by have := hb1.size; simp at this; omega
    clear hb1 c0
    go_wp2_with fail
    go_quiet (fail)
    go_wp2
    refine bodyPost_ret (v := .tuple #[.int .i64 n, .bool (xs == q)]) (by simp [results, Try.results30, go_sem]) rfl ?_
    exact ⟨rfl, HB.out.trans (g_drewN_below _ _ _)⟩
  · have ht : thereK ls q = false := by unfold thereK; rw [List.getElem?_eq_none (by omega)]
    have hpe : placeK ls q = ls.length := by have := placeK_le ls q; omega
    rw [placeK_none hn] at HC
    obtain ⟨ao, cap, rfl, h1, h2, h3, h4⟩ := hv
    rw [ht, hpe]
    clear ht h4 hpe hn hb0
    go_enter Try.func30, Try.ntmps30
    go_wp2_with fail
    refine HC.out.mono ?_
    rintro e w1 ⟨rfl, hb1⟩
    have HB := ghid (((Below.refl w.heap.size w).alloc (Nat.le_refl _) (.cells #[.int .i64 q] 3)).trans (hb1.mono (by simp)))
    clear hb1
    go_wp2
    refine bodyPost_ret (v := .tuple #[.int .i64 ls.length, .bool false]) (by simp [results, Try.results30, go_sem]) rfl ?_
    exact ⟨rfl, HB.out⟩
end Go.Proofs.Ytmcdbdcabiccnaf
