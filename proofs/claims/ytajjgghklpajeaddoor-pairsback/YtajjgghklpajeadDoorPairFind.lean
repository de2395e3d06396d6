/- pair.place, by slices.IndexFunc with its closure; the document's pairAt. -/
import Derived.Test.YtajjgghklpajeadDoorPairMath
import Derived.Laws.Cover1
import Derived.Deep.QuietTactic
import Derived.BigQuiet
namespace Go.Proofs.YtajjgghklpajeadDoor
open Go.RowKit

theorem pret_bool {a b : Bool} (h : a = b) : Ending.returned (.bool a) = .returned (.bool b) := by rw [h]

theorem place1_any (nm xn xv : ByteArray) (xe : Int) (b : Nat) (w : World) (hc : w.cell? ⟨b, 0, none⟩ = some (.string nm)) (hb : b < w.heap.size) :
    Calls Tryd.prog 20 #[.agg #[.string xn, .string xv, .int .i64 xe], .pointer (some ⟨b, 0, none⟩)] w fun e w' => e = .returned (.bool (!ltP xn nm)) ∧ Below w.heap.size w w' := by
  go_enter Tryd.func20, Tryd.ntmps20
  go_wp2
  go_ret
  exact ⟨pret_bool (by simp [ltP]), (Below.refl _ _).alloc (Nat.le_refl _) _⟩

set_option maxHeartbeats 800000 in
theorem indexPlace (v : Value) (ps : List PairD) (nm : ByteArray) (b0 : Nat) (w : World) (B : Nat) (hv : PairsR w B v ps) (hB : B ≤ w.heap.size) (hc0 : w.cell? ⟨b0, 0, none⟩ = some (.string nm)) (hb0 : b0 < w.heap.size) (hn : placeP ps nm < ps.length) :
    Calls Tryd.prog 19 #[v, .func (.func 20) #[] #[.pointer (some ⟨b0, 0, none⟩)]] w fun e w' => e = .returned (.int .i64 (placeP ps nm : Nat)) ∧ Below w.heap.size w w' := by
  obtain ⟨ao, cap, rfl, h1, h2, h3, h4⟩ := hv
  have HN : Hid (∀ x, ps[placeP ps nm]? = some x → ltP x.name nm = false) := fun x hx => placeP_at hx
  have HM : Hid (∀ (j : Nat) (x : PairD), j < placeP ps nm → ps[j]? = some x → ltP x.name nm = true) := fun j x hj hx => placeP_before hj hx
  obtain ⟨n, hne⟩ : ∃ n, n = placeP ps nm := ⟨_, rfl⟩
  rw [← hne] at HN HM hn ⊢
  clear hne
  go_enter Tryd.func19, Tryd.ntmps19
  go_wp2
  go_loopw [8] (fun i wr => ∃ k : Nat, k ≤ n ∧ i = .int .i64 k ∧ Below w.heap.size w wr) (fun i _ => ps.length - (intOf i).toNat)
  case atStart => exact ⟨0, Nat.zero_le _, rfl, Below.refl _ _⟩
  case round =>
    obtain ⟨k, hk, rfl, hb⟩ := hrel
    have hlt : k < ps.length := by omega
    obtain ⟨b, off, rfl, hbB, hc⟩ := h4 (by omega)
    obtain ⟨x, hx⟩ : ∃ x, ps[k]? = some x := ⟨_, List.getElem?_eq_getElem hlt⟩
    obtain ⟨c0, c1, c2, hs⟩ := (hc k x hx).below (by omega) hb
    have HX : Hid (ps[k]? = some x) := hx
    have C := place1_any nm x.name x.value x.version b0 wr ((hb.cell (p := ⟨b0, 0, none⟩) hb0).trans hc0) (by have := hb.size; omega)
    have hsz := hb.size
    clear hx hc h4 hs
    by_cases hkn : k = n
    · subst hkn
      rw [HN.out x HX.out] at C
      go_wp2_with fail
      refine C.mono ?_
      rintro e w1 ⟨rfl, hb1⟩
      have hb2 := hb.trans (hb1.mono hsz)
      clear hb1 C
      go_wp2
      go_ret
      exact ⟨rfl, hb2⟩
    · have hkn' : k < n := by omega
      rw [HM.out k x hkn' HX.out] at C
      clear hkn
      go_wp2_with fail
      refine C.mono ?_
      rintro e w1 ⟨rfl, hb1⟩
      have hb2 := hb.trans (hb1.mono hsz)
      clear hb1 C
      go_wp2
      go_roundw
      case rel => exact ⟨k + 1, by omega, by go_num, hb2⟩
      case measure => simp [intOf]; omega

set_option maxHeartbeats 800000 in
theorem indexPlace_none (v : Value) (ps : List PairD) (nm : ByteArray) (b0 : Nat) (w : World) (B : Nat) (hv : PairsR w B v ps) (hB : B ≤ w.heap.size) (hc0 : w.cell? ⟨b0, 0, none⟩ = some (.string nm)) (hb0 : b0 < w.heap.size) (hn : ¬ placeP ps nm < ps.length) :
    Calls Tryd.prog 19 #[v, .func (.func 20) #[] #[.pointer (some ⟨b0, 0, none⟩)]] w fun e w' => e = .returned (.int .i64 (-1)) ∧ Below w.heap.size w w' := by
  obtain ⟨ao, cap, rfl, h1, h2, h3, h4⟩ := hv
  have HM : Hid (∀ (j : Nat) (x : PairD), ps[j]? = some x → ltP x.name nm = true) := fun j x hx => placeP_before (by have := (List.getElem?_eq_some_iff.1 hx).1; omega) hx
  clear hn
  go_enter Tryd.func19, Tryd.ntmps19
  go_wp2
  go_loopw [8] (fun i wr => ∃ k : Nat, k ≤ ps.length ∧ i = .int .i64 k ∧ Below w.heap.size w wr) (fun i _ => ps.length - (intOf i).toNat)
  case atStart => exact ⟨0, Nat.zero_le _, rfl, Below.refl _ _⟩
  case round =>
    obtain ⟨k, hk, rfl, hb⟩ := hrel
    by_cases hlt : k < ps.length
    · obtain ⟨b, off, rfl, hbB, hc⟩ := h4 (by omega)
      obtain ⟨x, hx⟩ : ∃ x, ps[k]? = some x := ⟨_, List.getElem?_eq_getElem hlt⟩
      obtain ⟨c0, c1, c2, hs⟩ := (hc k x hx).below (by omega) hb
      have C := place1_any nm x.name x.value x.version b0 wr ((hb.cell (p := ⟨b0, 0, none⟩) hb0).trans hc0) (by have := hb.size; omega)
      have hsz := hb.size
      rw [HM.out k x hx] at C
      clear hx hc h4 hs
      go_wp2_with fail
      refine C.mono ?_
      rintro e w1 ⟨rfl, hb1⟩
      have hb2 := hb.trans (hb1.mono hsz)
      clear hb1 C
      go_wp2
      go_roundw
      case rel => exact ⟨k + 1, by omega, by go_num, hb2⟩
      case measure => simp [intOf]; omega
    · go_wp2
      go_ret
      exact ⟨rfl, hb⟩

set_option maxHeartbeats 800000 in
theorem place_any (v : Value) (ps : List PairD) (nm : ByteArray) (w : World) (B : Nat) (hv : PairsR w B v ps) (hB : B ≤ w.heap.size) :
    Calls Tryd.prog 12 #[v, .string nm] w fun e w' => e = .returned (.tuple #[.int .i64 (placeP ps nm : Nat), .bool (thereP ps nm)]) ∧ Below w.heap.size w w' := by
  have hlen := hv.len
  by_cases hn : placeP ps nm < ps.length
  · obtain ⟨x, hx⟩ : ∃ x, ps[placeP ps nm]? = some x := ⟨_, List.getElem?_eq_getElem hn⟩
    have ht : thereP ps nm = (x.name.toList == nm.toList) := by unfold thereP; rw [hx]; rfl
    have C := fun w' (hb : Below w.heap.size w w') b0 hc0 hb0 => indexPlace v ps nm b0 w' B (hv.below hb hB) (by have := hb.size; omega) hc0 hb0 hn
    have HC := phid C
    obtain ⟨ao, cap, rfl, h1, h2, h3, h4⟩ := hv
    obtain ⟨b, off, rfl, hbB, hc⟩ := h4 (by omega)
    obtain ⟨c0, -⟩ := hc _ x hx
    rw [ht]
    obtain ⟨n, hne⟩ : ∃ n, n = placeP ps nm := ⟨_, rfl⟩
    rw [← hne] at HC hn c0 ⊢
    obtain ⟨xn, xv, xe⟩ := x
    simp only at c0 ⊢
    clear C hx ht h4 hc hne
    go_enter Tryd.func12, Tryd.ntmps12
    go_wp2_with fail
    refine (HC.out _ ((Below.refl _ _).alloc (Nat.le_refl _) _) w.heap.size (by simp) (by simp)).mono ?_
    rintro e w1 ⟨rfl, hb1⟩
    have HB := phid (((Below.refl w.heap.size w).alloc (Nat.le_refl _) (.cells #[.string nm] 9)).trans (hb1.mono (by simp)))
    have d0 : w1.cell? ⟨b, off + n * 3, none⟩ = some (.string xn) := (HB.out.cell (p := ⟨b, off + n * 3, none⟩) (by show b < w.heap.size; omega)).trans c0
    have d1 : w1.cell? ⟨w.heap.size, 0, none⟩ = some (.string nm) := (hb1.cell (p := ⟨w.heap.size, 0, none⟩) (by simp)).trans (by simp)
    have hz1 : w.heap.size < w1.heap.size := by have := hb1.size; simp at this; omega
    clear hb1 c0
    go_wp2_with fail
    go_quiet (fail)
    go_wp2
    refine bodyPost_ret (v := .tuple #[.int .i64 n, .bool (xn.toList == nm.toList)]) (by simp [results, Tryd.results12, go_sem]) rfl ?_
    exact ⟨rfl, HB.out.trans (pairs_drewN_below _ _ _)⟩
  · have ht : thereP ps nm = false := by unfold thereP; rw [List.getElem?_eq_none (by omega)]
    have hpe : placeP ps nm = ps.length := by have := placeP_le ps nm; omega
    have C := fun w' (hb : Below w.heap.size w w') b0 hc0 hb0 => indexPlace_none v ps nm b0 w' B (hv.below hb hB) (by have := hb.size; omega) hc0 hb0 hn
    have HC := phid C
    obtain ⟨ao, cap, rfl, h1, h2, h3, h4⟩ := hv
    rw [ht, hpe]
    clear C ht h4 hpe hn
    go_enter Tryd.func12, Tryd.ntmps12
    go_wp2_with fail
    refine (HC.out _ ((Below.refl _ _).alloc (Nat.le_refl _) _) w.heap.size (by simp) (by simp)).mono ?_
    rintro e w1 ⟨rfl, hb1⟩
    have HB := phid (((Below.refl w.heap.size w).alloc (Nat.le_refl _) (.cells #[.string nm] 9)).trans (hb1.mono (by simp)))
    clear hb1
    go_wp2
    refine bodyPost_ret (v := .tuple #[.int .i64 ps.length, .bool false]) (by simp [results, Tryd.results12, go_sem]) rfl ?_
    exact ⟨rfl, HB.out⟩

end Go.Proofs.YtajjgghklpajeadDoor
