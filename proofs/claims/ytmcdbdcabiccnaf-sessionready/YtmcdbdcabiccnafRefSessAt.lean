/- The document's sessionAt: where the client's session is, or -1. -/
import Derived.Test.YtmcdbdcabiccnafSessMem
namespace Go.Proofs.Ytmcdbdcabiccnaf
open Go.RowKit

theorem placeS_before {ls : List SessD} {c : Int} {j : Nat} {y : SessD} (hj : j < placeS ls c) (hy : ls[j]? = some y) : y.client < c := by
  obtain ⟨h1, h2⟩ := List.getElem?_eq_some_iff.1 hy
  have := List.not_of_lt_findIdx (p := fun x : SessD => decide (c ≤ x.client)) (xs := ls) hj
  rw [h2] at this
  simp at this
  omega

theorem placeS_at {ls : List SessD} {c : Int} {y : SessD} (hy : ls[placeS ls c]? = some y) : c ≤ y.client := by
  obtain ⟨h1, h2⟩ := List.getElem?_eq_some_iff.1 hy
  have := List.findIdx_getElem (p := fun x : SessD => decide (c ≤ x.client)) (xs := ls) (w := h1)
  have e : ls[placeS ls c] = y := h2
  unfold placeS at e
  rw [e] at this
  simpa using this

theorem order_lt {ls : List SessD} (ho : ls.Pairwise (fun a b => a.client < b.client)) {i j : Nat} {x y : SessD} (hij : i < j) (hx : ls[i]? = some x) (hy : ls[j]? = some y) : x.client < y.client := by
  obtain ⟨h1, h2⟩ := List.getElem?_eq_some_iff.1 hx
  obtain ⟨h3, h4⟩ := List.getElem?_eq_some_iff.1 hy
  have := List.pairwise_iff_getElem.1 ho i j h1 h3 hij
  rwa [h2, h4] at this

/-- Where it is not there, all from its place on are above. -/
theorem placeS_above {ls : List SessD} {c : Int} (ho : ls.Pairwise (fun a b => a.client < b.client)) (ht : thereS ls c = false) {j : Nat} {y : SessD} (hj : placeS ls c ≤ j) (hy : ls[j]? = some y) : c < y.client := by
  obtain ⟨h1, h2⟩ := List.getElem?_eq_some_iff.1 hy
  obtain ⟨x, hx⟩ : ∃ x, ls[placeS ls c]? = some x := ⟨_, List.getElem?_eq_getElem (by omega)⟩
  have h3 := placeS_at hx
  have h4 : x.client ≠ c := by
    unfold thereS at ht
    rw [hx] at ht
    simpa using ht
  by_cases e : j = placeS ls c
  · subst e
    have := hx.symm.trans hy
    simp only [Option.some.injEq] at this
    rw [← this]
    omega
  · have := order_lt ho (by omega : placeS ls c < j) hx hy
    omega

theorem thereS_none {ls : List SessD} {c : Int} (ho : ls.Pairwise (fun a b => a.client < b.client)) (ht : thereS ls c = false) {j : Nat} {y : SessD} (hy : ls[j]? = some y) : y.client ≠ c := by
  by_cases h : j < placeS ls c
  · have := placeS_before h hy; omega
  · have := placeS_above ho ht (by omega) hy; omega

set_option maxHeartbeats 400000 in
theorem sessionAt_found (v : Value) (ls : List SessD) (c : Int) (n : Nat) (x0 : SessD) (w : World) (B : Nat) (hv : SessR w B v ls) (hn : ls[n]? = some x0) (hx0 : x0.client = c) (hm : ∀ (j : Nat) (x : SessD), j < n → ls[j]? = some x → x.client ≠ c) :
    Calls Try.prog 25 #[v, .int .i64 c] w fun e w' => e = .returned (.int .i64 n) ∧ w' = w := by
  obtain ⟨ao, cap, rfl, h1, h2, h3, h4⟩ := hv
  have HN := ghid hn
  have HM : Hid (∀ (j : Nat) (x : SessD), j < n → ls[j]? = some x → (x.client == c) = false) := fun j x hj hx => by simpa using hm j x hj hx
  have H0 : Hid ((x0.client == c) = true) := by simpa [Hid] using hx0
  have hnl : n < ls.length := (List.getElem?_eq_some_iff.1 hn).1
  clear hn hm hx0
  go_enter Try.func25, Try.ntmps25
  go_wp2
  go_loop [5] (fun i => ∃ k : Nat, k ≤ n ∧ i = .int .i64 k) (fun i => ls.length - (intOf i).toNat)
  case atStart => exact ⟨0, Nat.zero_le _, rfl⟩
  case round =>
    obtain ⟨k, hk, rfl⟩ := hrel
    have hlt : k < ls.length := by omega
    obtain ⟨b, off, rfl, hbB, hc⟩ := h4 (by omega)
    obtain ⟨x, hx⟩ : ∃ x, ls[k]? = some x := ⟨_, List.getElem?_eq_getElem hlt⟩
    obtain ⟨lv, c0, -⟩ := hc k x hx
    have HX := ghid hx
    clear hx hc h4
    by_cases hkn : k = n
    · subst hkn
      have e : x = x0 := by have := HX.out; rw [HN.out] at this; simpa using this.symm
      subst e
      have hq : (x.client == c) = true := H0.out
      go_wp2
      go_ret
      exact ⟨rfl, rfl⟩
    · have hkn' : k < n := by omega
      have hq : (x.client == c) = false := HM.out k x hkn' HX.out
      clear hkn
      go_wp2
      go_round
      case rel => exact ⟨k + 1, by omega, by go_num⟩
      case measure => simp [intOf]; omega

set_option maxHeartbeats 400000 in
theorem sessionAt_none (v : Value) (ls : List SessD) (c : Int) (w : World) (B : Nat) (hv : SessR w B v ls) (hm : ∀ (j : Nat) (x : SessD), ls[j]? = some x → x.client ≠ c) :
    Calls Try.prog 25 #[v, .int .i64 c] w fun e w' => e = .returned (.int .i64 (-1)) ∧ w' = w := by
  obtain ⟨ao, cap, rfl, h1, h2, h3, h4⟩ := hv
  have HM : Hid (∀ (j : Nat) (x : SessD), ls[j]? = some x → (x.client == c) = false) := fun j x hx => by simpa using hm j x hx
  clear hm
  go_enter Try.func25, Try.ntmps25
  go_wp2
  go_loop [5] (fun i => ∃ k : Nat, k ≤ ls.length ∧ i = .int .i64 k) (fun i => ls.length - (intOf i).toNat)
  case atStart => exact ⟨0, Nat.zero_le _, rfl⟩
  case round =>
    obtain ⟨k, hk, rfl⟩ := hrel
    by_cases hlt : k < ls.length
    · obtain ⟨b, off, rfl, hbB, hc⟩ := h4 (by omega)
      obtain ⟨x, hx⟩ : ∃ x, ls[k]? = some x := ⟨_, List.getElem?_eq_getElem hlt⟩
      obtain ⟨lv, c0, -⟩ := hc k x hx
      have hq : (x.client == c) = false := HM.out k x hx
      clear hx hc h4
      go_wp2
      go_round
      case rel => exact ⟨k + 1, by omega, by go_num⟩
      case measure => simp [intOf]; omega
    · go_wp2
      go_ret
      exact ⟨rfl, rfl⟩
end Go.Proofs.Ytmcdbdcabiccnaf
