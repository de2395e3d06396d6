/- slices.IndexFunc over calls that wait, with whatever closure; customer.hearCall's own (joined by program) -/
import Derived.Shelf.Abstract
import Derived.Deep.QuietTactic
import Derived.BigQuiet
import Derived.Test.YtcjoekjjebcomalCH06
import Derived.Test.YtcjoekjjebcomalCH16
namespace Go.Proofs.Ytcjoekjjebcomal

open Go.RowKit

/-- What is asked of a closure over calls that wait. -/
def PredW (cl : Nat) (lb : Array Value) (p : WaitD → Bool) (ks : List WaitD) (S : Nat → Prop) (w : World) : Prop :=
  ∀ (x : WaitD) (w' : World), x ∈ ks → TouchG w w' S → Calls Try.prog cl (#[.agg #[.int .i64 x.seq, .int .i64 x.kind, .string x.a, .string x.b, .int .i64 x.n]] ++ lb) w' fun e w'' => e = .returned (.bool (p x)) ∧ Below w'.heap.size w' w''

set_option maxHeartbeats 800000 in
theorem indexW (v : Value) (ls : List WaitD) (cl : Nat) (lb : Array Value) (p : WaitD → Bool) (S : Nat → Prop) (w : World) (B : Nat) (hv : WaitsR w B v ls) (hB : B ≤ w.heap.size) (eg : ∀ args w, (callFunc cl args).run Try.prog w = .ok (.enter cl args) w) (hp : PredW cl lb p ls S w) :
    Calls Try.prog 17 #[v, .func (.func cl) #[] lb] w fun e w' => e = .returned (.int .i64 (idxI p ls)) ∧ Below w.heap.size w w' := by
  obtain ⟨ao, cap, rfl, h1, h2, h3, h4⟩ := hv
  have HP := ghid hp
  clear hp
  go_enter Try.func17, Try.ntmps17
  go_wp2
  go_loopw [8] (fun i wr => ∃ k : Nat, k ≤ ls.length ∧ i = .int .i64 k ∧ Hid (∀ (j : Nat) (y : WaitD), j < k → ls[j]? = some y → p y = false) ∧ Below w.heap.size w wr) (fun i _ => ls.length - (intOf i).toNat)
  case atStart => exact ⟨0, Nat.zero_le _, rfl, fun j y hj => absurd hj (by omega), Below.refl _ _⟩
  case round =>
    obtain ⟨k, hk, rfl, HF, hb⟩ := hrel
    have hsz := hb.size
    by_cases hlt : k < ls.length
    · obtain ⟨b, off, rfl, hbB, hc⟩ := h4 (by omega)
      obtain ⟨x, hx⟩ : ∃ x, ls[k]? = some x := ⟨_, List.getElem?_eq_getElem hlt⟩
      obtain ⟨c0, c1, c2, c3, c4, -⟩ := (hc k x hx).below (by omega) hb
      have HX := ghid hx
      have C := HP.out x wr (List.mem_of_getElem? hx) (TouchG.of_below hb (Nat.le_refl _) _)
      have HB := ghid hb
      clear hx hc h4 hb
      cases hq : p x with
      | true =>
        rw [hq] at C
        have HQ := ghid hq
        clear hq
        go_wp2_with fail
        refine C.mono ?_
        rintro e w1 ⟨rfl, hb1⟩
        have HB2 := ghid (HB.out.trans (hb1.mono hsz))
        clear hb1 C
        go_wp2
        go_ret
        exact ⟨sret_int (idxI_found HX.out HQ.out HF.out).1.symm, HB2.out⟩
      | false =>
        rw [hq] at C
        have HN : Hid (∀ (j : Nat) (y : WaitD), j < k + 1 → ls[j]? = some y → p y = false) := fun j y hj hy => by
          by_cases e : j = k
          · subst e
            have := HX.out.symm.trans hy
            simp only [Option.some.injEq] at this
            rw [← this]; exact hq
          · exact HF.out j y (by omega) hy
        clear hq
        go_wp2_with fail
        refine C.mono ?_
        rintro e w1 ⟨rfl, hb1⟩
        have HB2 := ghid (HB.out.trans (hb1.mono hsz))
        clear hb1 C
        go_wp2
        go_roundw
        case rel => exact ⟨k + 1, by omega, by go_num, HN, HB2.out⟩
        case measure => simp [intOf]; omega
    · have HN : Hid (∀ (j : Nat) (y : WaitD), ls[j]? = some y → p y = false) := fun j y hy => HF.out j y (by have := (List.getElem?_eq_some_iff.1 hy).1; omega) hy
      clear HF
      go_wp2
      go_ret
      exact ⟨sret_int (idxI_none HN.out).1.symm, hb⟩

theorem heard1_any (s xk xn : Int) (xa xb : ByteArray) (q : Int) (b0 : Nat) (w : World) (hc0 : w.cell? ⟨b0, 0, none⟩ = some (.int .i64 q)) (hb0 : b0 < w.heap.size) :
    Calls Try.prog 18 #[.agg #[.int .i64 s, .int .i64 xk, .string xa, .string xb, .int .i64 xn], .pointer (some ⟨b0, 0, none⟩)] w fun e w' => e = .returned (.bool (s == q)) ∧ Below w.heap.size w w' := by
  go_enter Try.func18, Try.ntmps18
  go_wp2
  go_ret
  exact ⟨rfl, (Below.refl _ _).alloc (Nat.le_refl _) _⟩

end Go.Proofs.Ytcjoekjjebcomal
