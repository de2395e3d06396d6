/- slices.Concat of lists of texts: all of them, in a row of the call's own. slices.Grow by the shelf's contract. -/
import Derived.Shelf.Spec.SlicesGrow
import Derived.Laws.AppendOwnNone
import Derived.Test.YtkmeiilnjkmkiahTextMem
import Derived.WalkKit
import Derived.ProofKit
namespace Go.Proofs.Ytkmeiilnjkmkiah
open Go.RowKit Go.Shelf

def growRen : Go.Shelf.Ren := ⟨fun | 4 => 39 | n => n, fun | 0 => 0 | 3 => 3 | 4 => 4 | 9 => 9 | 20 => 20 | 22 => 22 | 25 => 9 | n => n, fun | n => n⟩

theorem growLays : Go.Proofs.Lays8.n4 Try.prog growRen := {
  mixed := by kernel_rfl
  f4 := ⟨ "slices.Grow[[]string,string]", by decide, Try.func39.trans (congrArg some (by kernel_rfl))⟩
  t0 := Try.underlying0
  a0 := Try.isAgg0
  z0 := Try.sizeOf0
  v0 := Try.zeroValue0
  t3 := Try.underlying3
  a3 := Try.isAgg3
  z3 := Try.sizeOf3
  v3 := Try.zeroValue3
  t4 := Try.underlying4
  a4 := Try.isAgg4
  z4 := Try.sizeOf4
  v4 := Try.zeroValue4
  t9 := Try.underlying9
  a9 := Try.isAgg9
  z9 := Try.sizeOf9
  v9 := Try.zeroValue9
  t20 := Try.underlying20
  a20 := Try.isAgg20
  z20 := Try.sizeOf20
  v20 := Try.zeroValue20
  t22 := Try.underlying22
  a22 := Try.isAgg22
  z22 := Try.sizeOf22
  v22 := Try.zeroValue22 }

/-- slices.Grow of nothing: nothing, or a row of the call's own with room. -/
theorem grow_any (n : Nat) (w : World) (hn : n * 16 ≤ 140737488351232) :
    Calls Try.prog 39 #[.slice none 0 0, .int .i64 n] w fun e w' => ∃ v, e = .returned v ∧ w'.ownsRow w.heap.size 9 1 v 0 [] ∧ Below w.heap.size w w' := by
  obtain ⟨i0, hi0, hz0, hz1, hz2⟩ := info_parts Try.infoText
  by_cases h0 : n = 0
  · subst h0
    refine (Any8.slices_Grow_room growLays none 0 0 0 w (by omega) (by omega) (by omega) (by omega)).mono ?_
    rintro e w' ⟨rfl, rfl⟩
    exact ⟨_, rfl, World.ownsRow_nil _ _ _ _, Below.refl _ _⟩
  · refine (Any8.slices_Grow_grow growLays i0 _ hi0 hz0 (by rw [hz1]; omega) none 0 0 n [] w (by omega) (by omega) (by rw [hz2]; omega) (by omega) (by simp) (fun _ => rfl) (fun a h => by cases h)).mono ?_
    rintro e w' ⟨rfl, rfl⟩
    refine ⟨_, rfl, World.ownsRow_made w.drew _ _ (Nat.le_refl _) (grownCap_le_maxLen w (0 + n) 0 9 (by unfold maxLen; omega)) ?_, ((g_drewN_below w.heap.size w 1).alloc (Nat.le_refl _) _)⟩
    have := grownCap_ge w (0 + n) 0 9
    have h1 : (Value.string { data := #[] }).cells.size = 1 := rfl
    simp [growRen, Builtin.zeroCells, h1] at this ⊢
    omega

/-- The value v reads in w as lists of texts, in a row; the row lies below block B. -/
def ListsR (w : World) (B : Nat) (v : Value) (tss : List (List ByteArray)) : Prop :=
  ∃ b off cap, v = .slice (some ⟨b, off, none⟩) tss.length cap ∧ b < B ∧ tss.length ≤ cap ∧ tss.length ≤ 1000 ∧ ∀ (i : Nat) (ts : List ByteArray), tss[i]? = some ts → ∃ lv, w.cell? ⟨b, off + i, none⟩ = some lv ∧ TextsR w B lv ts

theorem flat_take {tss : List (List ByteArray)} {k : Nat} {ts : List ByteArray} (h : tss[k]? = some ts) : (tss.take (k + 1)).flatten = (tss.take k).flatten ++ ts := by
  obtain ⟨hk, e⟩ := List.getElem?_eq_some_iff.1 h
  rw [List.take_succ_eq_append_getElem hk, e]
  simp

theorem flat_take_le (tss : List (List ByteArray)) (k : Nat) : (tss.take k).flatten.length ≤ tss.flatten.length := by
  have h := congrArg List.flatten (List.take_append_drop k tss)
  rw [List.flatten_append] at h
  have := congrArg List.length h
  rw [List.length_append] at this
  omega

theorem texts_cells {w : World} {B : Nat} {a : Addr} {n cap : Nat} {ts : List ByteArray} (h : TextsR w B (.slice (some a) n cap) ts) : n = ts.length ∧ ∀ j u, (textCells ts)[j]? = some u → w.cell? (a.add j) = some u := by
  obtain ⟨ao, cp, e, h1, h2, h3, h4⟩ := h
  simp only [Value.slice.injEq] at e
  obtain ⟨rfl, rfl, rfl⟩ := e
  refine ⟨rfl, fun j u hj => ?_⟩
  have hl : j < ts.length := by have := (List.getElem?_eq_some_iff.1 hj).1; simpa [textCells] using this
  obtain ⟨b, off, e, hb, hc⟩ := h4 (by omega)
  simp only [Option.some.injEq] at e
  subst e
  rw [gadd]
  simp only [textCells, List.getElem?_map, Option.map_eq_some_iff] at hj
  obtain ⟨t, ht, rfl⟩ := hj
  exact (hc j t ht).1

set_option maxRecDepth 100000 in
set_option maxHeartbeats 1600000 in
theorem concat_any (v : Value) (tss : List (List ByteArray)) (w : World) (B : Nat) (hv : ListsR w B v tss) (hB : B ≤ w.heap.size) (hsum : tss.flatten.length * 16 ≤ 140737488351232) :
    Calls Try.prog 32 #[v] w fun e w' => ∃ vo, e = .returned vo ∧ w'.ownsRow w.heap.size 9 1 vo tss.flatten.length (textCells tss.flatten) ∧ Below w.heap.size w w' := by
  obtain ⟨i0, hi0, hz0, hz1, hz2⟩ := info_parts Try.infoText
  obtain ⟨b, off, cap, rfl, hbB, hcap, hmany, hc⟩ := hv
  have HC := ghid hc
  have CG := ghid (fun w => grow_any tss.flatten.length w hsum)
  clear hc
  go_enter Try.func32, Try.ntmps32
  go_wp2
  go_loopw [3, 11] (fun s i wr => ∃ k n : Nat, k ≤ tss.length ∧ i = .int .i64 k ∧ s = .int .i64 ((tss.take k).flatten.length : Int) ∧ wr = w.drewN n) (fun _ i _ => tss.length - (intOf i).toNat)
  case atStart => exact ⟨0, 0, Nat.zero_le _, rfl, by simp, rfl⟩
  case round =>
    obtain ⟨k, n, hk, rfl, rfl, rfl⟩ := hrel
    by_cases hlt : k < tss.length
    · obtain ⟨ts, hts⟩ : ∃ ts, tss[k]? = some ts := ⟨_, List.getElem?_eq_getElem hlt⟩
      obtain ⟨lv, c0, hlv⟩ := HC.out k ts hts
      obtain ⟨lo, lc, rfl⟩ := hlv.slice
      have hlen := hlv.len
      have HF : Hid ((tss.take (k + 1)).flatten.length = (tss.take k).flatten.length + ts.length) := by unfold Hid; rw [flat_take hts, List.length_append]
      have hle := flat_take_le tss (k + 1)
      have hle2 := HF.out
      obtain ⟨s, hs⟩ : ∃ s, s = (tss.take k).flatten.length := ⟨_, rfl⟩
      obtain ⟨s1, hs1⟩ : ∃ s, s = (tss.take (k + 1)).flatten.length := ⟨_, rfl⟩
      rw [← hs, ← hs1] at HF hle2
      rw [← hs1] at hle
      have HS1 := ghid hs1
      rw [← hs]
      have hbd : (s : Int) + ts.length ≤ 8796093021952 := by omega
      have hge : 0 ≤ (s : Int) := by omega
      clear hts hlv hs hs1 hle hle2
      go_wp2
      go_roundw
      case rel => exact ⟨k + 1, _, by omega, by go_num, by rw [← HS1.out, HF.out]; go_num, rfl⟩
      case measure => simp [intOf]; omega
    · obtain rfl : k = tss.length := by omega
      rw [List.take_length]
      have HX := ghid hsum
      have hbd : (tss.flatten.length : Int) ≤ 8796093021952 := by omega
      obtain ⟨s, hs⟩ : ∃ s, s = tss.flatten.length := ⟨_, rfl⟩
      rw [← hs] at CG hbd ⊢
      have HS := ghid hs
      clear hs hsum
      go_wp2_with fail
      refine (CG.out _).mono ?_
      rintro e w1 ⟨v1, rfl, hown1, hb1⟩
      have HO1 := ghid hown1
      have HB1 := ghid ((g_drewN_below w.heap.size w n).trans (hb1.mono (by simp)))
      have hw1 : w.heap.size ≤ w1.heap.size := HB1.out.size
      have HO1' : Hid (w1.ownsRow w.heap.size 9 1 v1 0 []) := ghid (by have := HO1.out; simpa using this)
      clear hown1 hb1 CG HO1
      go_wp2
      go_loopw [6, 27] (fun o i wr => ∃ k : Nat, k ≤ tss.length ∧ i = .int .i64 k ∧ wr.ownsRow w.heap.size 9 1 o (tss.take k).flatten.length (textCells (tss.take k).flatten) ∧ Below w.heap.size w wr) (fun _ i _ => tss.length - (intOf i).toNat)
      case atStart => exact ⟨0, Nat.zero_le _, rfl, by simpa [textCells] using HO1'.out, HB1.out⟩
      case round =>
        clear HO1' HB1 hw1
        obtain ⟨k, hk, rfl, hown, hb⟩ := hrel
        by_cases hlt : k < tss.length
        · obtain ⟨ts, hts⟩ : ∃ ts, tss[k]? = some ts := ⟨_, List.getElem?_eq_getElem hlt⟩
          obtain ⟨lv, c0', hlv'⟩ := HC.out k ts hts
          have c0 : wr.cell? ⟨b, off + k, none⟩ = some lv := (hb.cell (p := ⟨b, off + k, none⟩) (by simp; omega)).trans c0'
          have hlv := hlv'.below hb hB
          obtain ⟨lo, lc, rfl⟩ := hlv.slice
          have HF := ghid (flat_take hts)
          have hle := flat_take_le tss (k + 1)
          rw [HF.out, List.length_append] at hle
          obtain ⟨P, hP⟩ : ∃ P, P = (tss.take k).flatten := ⟨_, rfl⟩
          rw [← hP] at HF hle hown
          obtain ⟨so, sc, rfl⟩ := grow_shape hown
          have HO := ghid hown
          have HB := ghid hb
          have HLV := ghid hlv
          have hwr : w.heap.size ≤ wr.heap.size := hb.size
          have hbd : P.length + ts.length ≤ 8796093021952 := by have := HX.out; omega
          clear hts hlv hlv' c0' hown hb hP hle
          cases lo with
          | none =>
            have e0 : lc = 0 ∧ ts.length = 0 := by
              obtain ⟨ao, cp, e, h1, h2, h3, h4⟩ := HLV.out
              simp only [Value.slice.injEq] at e
              obtain ⟨rfl, -, rfl⟩ := e
              have := h3 rfl
              omega
            obtain ⟨rfl, e1⟩ := e0
            have e2 : ts = [] := List.eq_nil_of_length_eq_zero e1
            subst e2
            go_wp2_with (at_builtin; refine wpList_append_own_none rfl (.tmp 31) (.tmp 32) 22 rfl w.heap.size 9 i0 1 Try.underlying22 hi0 _ _ _ rfl HO.out rfl ?_)
            go_wp2
            go_roundw
            case rel => exact ⟨k + 1, by omega, by go_num, by rw [HF.out]; simpa using HO.out, HB.out⟩
            case measure => simp [intOf]; omega
          | some ad =>
            have hcl := texts_cells HLV.out
            have HCL := ghid hcl.2
            clear hcl
            go_wp2_with (at_builtin; refine wpList_append_own _ rfl (.tmp 31) (.tmp 32) 22 rfl w.heap.size 9 i0 _ 1 16 Try.underlying22 hi0 hz0 hz1 hz2 rfl (by decide) _ _ _ rfl HO.out ad ts.length lc (textCells ts) rfl (by simp [textCells]) HCL.out (textCells_one ts) (by unfold maxLen; omega) (by omega) hwr ?_)
            intro v2 w2 hown2 hg2 _
            have HO2 : Hid (w2.ownsRow w.heap.size 9 1 v2 (P ++ ts).length (textCells (P ++ ts))) := by
              unfold Hid
              rw [List.length_append]
              simpa [textCells] using hown2
            have HB2 := ghid (HB.out.grown hg2 hwr (fun j hj => (HO.out.lt j hj).1))
            clear hown2 hg2
            go_wp2
            go_roundw
            case rel => exact ⟨k + 1, by omega, by go_num, by rw [HF.out]; exact HO2.out, HB2.out⟩
            case measure => simp [intOf]; omega
        · obtain rfl : k = tss.length := by omega
          rw [List.take_length] at hown
          have HO := ghid hown
          have HB := ghid hb
          clear hown hb
          go_wp2
          go_ret
          exact ⟨_, rfl, by rw [HS.out]; exact HO.out, HB.out⟩
end Go.Proofs.Ytkmeiilnjkmkiah
