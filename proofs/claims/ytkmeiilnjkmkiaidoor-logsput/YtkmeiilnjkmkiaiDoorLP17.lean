/- slices.Concat of lists of texts: all of them, in a row of the call's own. slices.Grow by the shelf's contract; log.join: lists of texts to one, in memory of its own (joined by program) -/
import Derived.Shelf.Spec.SlicesGrow
import Derived.Laws.AppendOwnNone
import Derived.WalkKit
import Derived.ProofKit
import Derived.Test.YtkmeiilnjkmkiaiDoorLP03
import Derived.Test.YtkmeiilnjkmkiaiDoorLP05
import Derived.Test.YtkmeiilnjkmkiaiDoorLP04
namespace Go.Proofs.YtkmeiilnjkmkiaiDoor

open Go.RowKit Go.Shelf

def growRen : Go.Shelf.Ren := ⟨fun | 4 => 40 | n => n, fun | 0 => 0 | 3 => 3 | 4 => 4 | 9 => 9 | 20 => 20 | 22 => 23 | 25 => 9 | n => n, fun | n => n⟩

theorem growLays : Go.Proofs.Lays8.n4 Tryd.prog growRen := {
  mixed := by kernel_rfl
  f4 := ⟨ "slices.Grow[[]string,string]", by decide, Tryd.func40.trans (congrArg some (by kernel_rfl))⟩
  t0 := Tryd.underlying0
  a0 := Tryd.isAgg0
  z0 := Tryd.sizeOf0
  v0 := Tryd.zeroValue0
  t3 := Tryd.underlying3
  a3 := Tryd.isAgg3
  z3 := Tryd.sizeOf3
  v3 := Tryd.zeroValue3
  t4 := Tryd.underlying4
  a4 := Tryd.isAgg4
  z4 := Tryd.sizeOf4
  v4 := Tryd.zeroValue4
  t9 := Tryd.underlying9
  a9 := Tryd.isAgg9
  z9 := Tryd.sizeOf9
  v9 := Tryd.zeroValue9
  t20 := Tryd.underlying20
  a20 := Tryd.isAgg20
  z20 := Tryd.sizeOf20
  v20 := Tryd.zeroValue20
  t22 := Tryd.underlying23
  a22 := Tryd.isAgg23
  z22 := Tryd.sizeOf23
  v22 := Tryd.zeroValue23 }

/-- slices.Grow of nothing: nothing, or a row of the call's own with room. -/
theorem grow_any (n : Nat) (w : World) (hn : n * 16 ≤ 140737488351232) :
    Calls Tryd.prog 40 #[.slice none 0 0, .int .i64 n] w fun e w' => ∃ v, e = .returned v ∧ w'.ownsRow w.heap.size 9 1 v 0 [] ∧ Below w.heap.size w w' := by
  obtain ⟨i0, hi0, hz0, hz1, hz2⟩ := info_parts Tryd.infoText
  by_cases h0 : n = 0
  · subst h0
    refine (Any8.slices_Grow_room growLays none 0 0 0 w (by omega) (by omega) (by omega) (by omega)).mono ?_
    rintro e w' ⟨rfl, rfl⟩
    exact ⟨_, rfl, World.ownsRow_nil _ _ _ _, Below.refl _ _⟩
  · refine (Any8.slices_Grow_grow growLays i0 _ hi0 hz0 (by rw [hz1]; omega) none 0 0 n [] w (by omega) (by omega) (by rw [hz2]; omega) (by omega) (by simp) (fun _ => rfl) (fun a h => by cases h)).mono ?_
    rintro e w' ⟨rfl, rfl⟩
    refine ⟨_, rfl, World.ownsRow_made w.drew _ _ (Nat.le_refl _) (grownCap_le_maxLen w (0 + n) 0 9 (by unfold maxLen; omega)) ?_, ((g_drewN_below w.heap.size w 1).alloc (Nat.le_refl _) _)⟩
    have := grownCap_ge w (0 + n) 0 9
    have h1 : (Value.string { data := #[] }).cells.size = 1 := rfl
    simp [growRen, Builtin.zeroCells, h1] at this ⊢
    omega

/-- The value v reads in w as lists of texts, in a row; the row lies below block B. -/
def ListsR (w : World) (B : Nat) (v : Value) (tss : List (List ByteArray)) : Prop :=
  ∃ b off cap, v = .slice (some ⟨b, off, none⟩) tss.length cap ∧ b < B ∧ tss.length ≤ cap ∧ tss.length ≤ 1000 ∧ ∀ (i : Nat) (ts : List ByteArray), tss[i]? = some ts → ∃ lv, w.cell? ⟨b, off + i, none⟩ = some lv ∧ TextsR w B lv ts

theorem flat_take {tss : List (List ByteArray)} {k : Nat} {ts : List ByteArray} (h : tss[k]? = some ts) : (tss.take (k + 1)).flatten = (tss.take k).flatten ++ ts := by
  obtain ⟨hk, e⟩ := List.getElem?_eq_some_iff.1 h
  rw [List.take_succ_eq_append_getElem hk, e]
  simp

theorem flat_take_le (tss : List (List ByteArray)) (k : Nat) : (tss.take k).flatten.length ≤ tss.flatten.length := by
  have h := congrArg List.flatten (List.take_append_drop k tss)
  rw [List.flatten_append] at h
  have := congrArg List.length h
  rw [List.length_append] at this
  omega

theorem texts_cells {w : World} {B : Nat} {a : Addr} {n cap : Nat} {ts : List ByteArray} (h : TextsR w B (.slice (some a) n cap) ts) : n = ts.length ∧ ∀ j u, (textCells ts)[j]? = some u → w.cell? (a.add j) = some u := by
  obtain ⟨ao, cp, e, h1, h2, h3, h4⟩ := h
  simp only [Value.slice.injEq] at e
  obtain ⟨rfl, rfl, rfl⟩ := e
  refine ⟨rfl, fun j u hj => ?_⟩
  have hl : j < ts.length := by have := (List.getElem?_eq_some_iff.1 hj).1; simpa [textCells] using this
  obtain ⟨b, off, e, hb, hc⟩ := h4 (by omega)
  simp only [Option.some.injEq] at e
  subst e
  rw [gadd]
  simp only [textCells, List.getElem?_map, Option.map_eq_some_iff] at hj
  obtain ⟨t, ht, rfl⟩ := hj
  exact (hc j t ht).1

set_option maxRecDepth 100000 in
set_option maxHeartbeats 1600000 in
theorem concat_any (v : Value) (tss : List (List ByteArray)) (w : World) (B : Nat) (hv : ListsR w B v tss) (hB : B ≤ w.heap.size) (hsum : tss.flatten.length * 16 ≤ 140737488351232) :
    Calls Tryd.prog 29 #[v] w fun e w' => ∃ vo, e = .returned vo ∧ w'.ownsRow w.heap.size 9 1 vo tss.flatten.length (textCells tss.flatten) ∧ Below w.heap.size w w' := by
  obtain ⟨i0, hi0, hz0, hz1, hz2⟩ := info_parts Tryd.infoText
  obtain ⟨b, off, cap, rfl, hbB, hcap, hmany, hc⟩ := hv
  have HC := ghid hc
  have CG := ghid (fun w => grow_any tss.flatten.length w hsum)
  clear hc
  go_enter Tryd.func29, Tryd.ntmps29
  go_wp2
  go_loopw [3, 11] (fun s i wr => ∃ k n : Nat, k ≤ tss.length ∧ i = .int .i64 k ∧ s = .int .i64 ((tss.take k).flatten.length : Int) ∧ wr = w.drewN n) (fun _ i _ => tss.length - (intOf i).toNat)
  case atStart => exact ⟨0, 0, Nat.zero_le _, rfl, by simp, rfl⟩
  case round =>
    obtain ⟨k, n, hk, rfl, rfl, rfl⟩ := hrel
    by_cases hlt : k < tss.length
    · obtain ⟨ts, hts⟩ : ∃ ts, tss[k]? = some ts := ⟨_, List.getElem?_eq_getElem hlt⟩
      obtain ⟨lv, c0, hlv⟩ := HC.out k ts hts
      obtain ⟨lo, lc, rfl⟩ := hlv.slice
      have hlen := hlv.len
      have HF : Hid ((tss.take (k + 1)).flatten.length = (tss.take k).flatten.length + ts.length) := by unfold Hid; rw [flat_take hts, List.length_append]
      have hle := flat_take_le tss (k + 1)
      have hle2 := HF.out
      obtain ⟨s, hs⟩ : ∃ s, s = (tss.take k).flatten.length := ⟨_, rfl⟩
      obtain ⟨s1, hs1⟩ : ∃ s, s = (tss.take (k + 1)).flatten.length := ⟨_, rfl⟩
      rw [← hs, ← hs1] at HF hle2
      rw [← hs1] at hle
      have HS1 := ghid hs1
      rw [← hs]
      have hbd : (s : Int) + ts.length ≤ 8796093021952 := by omega
      have hge : 0 ≤ (s : Int) := by omega
      clear hts hlv hs hs1 hle hle2
      go_wp2
      go_roundw
      case rel => exact ⟨k + 1, _, by omega, by go_num, by rw [← HS1.out, HF.out]; go_num, rfl⟩
      case measure => simp [intOf]; omega
    · obtain rfl : k = tss.length := by omega
      rw [List.take_length]
      have HX := ghid hsum
      have hbd : (tss.flatten.length : Int) ≤ 8796093021952 := by omega
      obtain ⟨s, hs⟩ : ∃ s, s = tss.flatten.length := ⟨_, rfl⟩
      rw [← hs] at CG hbd ⊢
      have HS := ghid hs
      clear hs hsum
      go_wp2_with fail
      refine (CG.out _).mono ?_
      rintro e w1 ⟨v1, rfl, hown1, hb1⟩
      have HO1 := ghid hown1
      have HB1 := ghid ((g_drewN_below w.heap.size w n).trans (hb1.mono (by simp)))
      have hw1 : w.heap.size ≤ w1.heap.size := HB1.out.size
      have HO1' : Hid (w1.ownsRow w.heap.size 9 1 v1 0 []) := ghid (by have := HO1.out; simpa using this)
      clear hown1 hb1 CG HO1
      go_wp2
      go_loopw [6, 27] (fun o i wr => ∃ k : Nat, k ≤ tss.length ∧ i = .int .i64 k ∧ wr.ownsRow w.heap.size 9 1 o (tss.take k).flatten.length (textCells (tss.take k).flatten) ∧ Below w.heap.size w wr) (fun _ i _ => tss.length - (intOf i).toNat)
      case atStart => exact ⟨0, Nat.zero_le _, rfl, by simpa [textCells] using HO1'.out, HB1.out⟩
      case round =>
        clear HO1' HB1 hw1
        obtain ⟨k, hk, rfl, hown, hb⟩ := hrel
        by_cases hlt : k < tss.length
        · obtain ⟨ts, hts⟩ : ∃ ts, tss[k]? = some ts := ⟨_, List.getElem?_eq_getElem hlt⟩
          obtain ⟨lv, c0', hlv'⟩ := HC.out k ts hts
          have c0 : wr.cell? ⟨b, off + k, none⟩ = some lv := (hb.cell (p := ⟨b, off + k, none⟩) (by simp; omega)).trans c0'
          have hlv := hlv'.below hb hB
          obtain ⟨lo, lc, rfl⟩ := hlv.slice
          have HF := ghid (flat_take hts)
          have hle := flat_take_le tss (k + 1)
          rw [HF.out, List.length_append] at hle
          obtain ⟨P, hP⟩ : ∃ P, P = (tss.take k).flatten := ⟨_, rfl⟩
          rw [← hP] at HF hle hown
          obtain ⟨so, sc, rfl⟩ := grow_shape hown
          have HO := ghid hown
          have HB := ghid hb
          have HLV := ghid hlv
          have hwr : w.heap.size ≤ wr.heap.size := hb.size
          have hbd : P.length + ts.length ≤ 8796093021952 := by have := HX.out; omega
          clear hts hlv hlv' c0' hown hb hP hle
          cases lo with
          | none =>
            have e0 : lc = 0 ∧ ts.length = 0 := by
              obtain ⟨ao, cp, e, h1, h2, h3, h4⟩ := HLV.out
              simp only [Value.slice.injEq] at e
              obtain ⟨rfl, -, rfl⟩ := e
              have := h3 rfl
              omega
            obtain ⟨rfl, e1⟩ := e0
            have e2 : ts = [] := List.eq_nil_of_length_eq_zero e1
            subst e2
            go_wp2_with (at_builtin; refine wpList_append_own_none rfl (.tmp 31) (.tmp 32) 23 rfl w.heap.size 9 i0 1 Tryd.underlying23 hi0 _ _ _ rfl HO.out rfl ?_)
            go_wp2
            go_roundw
            case rel => exact ⟨k + 1, by omega, by go_num, by rw [HF.out]; simpa using HO.out, HB.out⟩
            case measure => simp [intOf]; omega
          | some ad =>
            have hcl := texts_cells HLV.out
            have HCL := ghid hcl.2
            clear hcl
            go_wp2_with (at_builtin; refine wpList_append_own _ rfl (.tmp 31) (.tmp 32) 23 rfl w.heap.size 9 i0 _ 1 16 Tryd.underlying23 hi0 hz0 hz1 hz2 rfl (by decide) _ _ _ rfl HO.out ad ts.length lc (textCells ts) rfl (by simp [textCells]) HCL.out (textCells_one ts) (by unfold maxLen; omega) (by omega) hwr ?_)
            intro v2 w2 hown2 hg2 _
            have HO2 : Hid (w2.ownsRow w.heap.size 9 1 v2 (P ++ ts).length (textCells (P ++ ts))) := by
              unfold Hid
              rw [List.length_append]
              simpa [textCells] using hown2
            have HB2 := ghid (HB.out.grown hg2 hwr (fun j hj => (HO.out.lt j hj).1))
            clear hown2 hg2
            go_wp2
            go_roundw
            case rel => exact ⟨k + 1, by omega, by go_num, by rw [HF.out]; exact HO2.out, HB2.out⟩
            case measure => simp [intOf]; omega
        · obtain rfl : k = tss.length := by omega
          rw [List.take_length] at hown
          have HO := ghid hown
          have HB := ghid hb
          clear hown hb
          go_wp2
          go_ret
          exact ⟨_, rfl, by rw [HS.out]; exact HO.out, HB.out⟩

end Go.Proofs.YtkmeiilnjkmkiaiDoor

namespace Go.Proofs.YtkmeiilnjkmkiaiDoor

open Go.RowKit

theorem textCells_same {ts : List ByteArray} {k : Nat} {t : ByteArray} (h : ts[k]? = some t) : (textCells ts).set k (.string t) = textCells ts := by
  apply List.ext_getElem?
  intro j
  rw [List.getElem?_set]
  by_cases hj : k = j
  · subst hj
    have := (List.getElem?_eq_some_iff.1 h).1
    rw [if_pos rfl, if_pos (by simpa [textCells] using this)]
    simp [textCells, h]
  · rw [if_neg hj]

set_option maxRecDepth 100000 in
set_option maxHeartbeats 1600000 in
theorem join_own (v : Value) (tss : List (List ByteArray)) (w : World) (B : Nat) (hv : ListsR w B v tss) (hB : B ≤ w.heap.size) (hsum : tss.flatten.length * 16 ≤ 140737488351232) (hm : ∀ t ∈ tss.flatten, t.size ≤ 140737488351232) :
    Calls Tryd.prog 21 #[v] w fun e w' => ∃ vo, e = .returned vo ∧ w'.ownsRow w.heap.size 9 1 vo tss.flatten.length (textCells tss.flatten) ∧ Below w.heap.size w w' := by
  have CC := ghid (concat_any v tss w B hv hB hsum)
  obtain ⟨b, off, cap, rfl, -⟩ := hv
  obtain ⟨ts, hts⟩ : ∃ ts, ts = tss.flatten := ⟨_, rfl⟩
  rw [← hts] at CC hsum hm ⊢
  have HM := ghid hm
  clear hts hm
  go_enter Tryd.func21, Tryd.ntmps21
  go_wp2_with fail
  refine CC.out.mono ?_
  rintro e w1 ⟨vo, rfl, hown, hb⟩
  have HO1 := ghid hown
  have HB1 := ghid hb
  obtain ⟨lo, lc, rfl⟩ := grow_shape hown
  clear hown hb CC
  go_wp2
  go_loopw [10] (fun i wr => ∃ k : Nat, k ≤ ts.length ∧ i = .int .i64 k ∧ wr.ownsRow w.heap.size 9 1 (.slice lo ts.length lc) ts.length (textCells ts) ∧ Below w.heap.size w wr) (fun i _ => ts.length - (intOf i).toNat)
  case atStart => exact ⟨0, Nat.zero_le _, rfl, HO1.out, HB1.out⟩
  case round =>
    clear HO1 HB1
    obtain ⟨k, hk, rfl, hown, hb⟩ := hrel
    by_cases hlt : k < ts.length
    · obtain ⟨t, ht⟩ : ∃ t, ts[k]? = some t := ⟨_, List.getElem?_eq_getElem hlt⟩
      obtain ⟨g, cp, e, hg, hgl, hcp⟩ := grow_some hown (by omega)
      simp only [Value.slice.injEq] at e
      obtain ⟨rfl, -, rfl⟩ := e
      have c0 : wr.cell? ⟨g, 0 + k, none⟩ = some (.string t) := by
        rw [Nat.zero_add, hown.cellAt k (by omega)]
        simp [textCells, ht]
      rw [Nat.zero_add] at c0
      have HO := ghid hown
      have HB := ghid hb
      have CL := ghid (fun w => clone_any t w (by have := HM.out t (List.mem_of_getElem? ht); omega))
      have HS := ghid (textCells_same ht)
      clear ht hown hb
      go_wp2_with fail
      refine (CL.out _).mono ?_
      rintro e w2 ⟨rfl, hb2⟩
      have HO2 := ghid (grow_below HO.out hb2 (Nat.le_refl _))
      have HB2 := ghid (HB.out.trans (hb2.mono HB.out.size))
      have hg2 : g < w2.heap.size := (HO2.out.lt g rfl).2
      have f2 : ∀ j, w2.frozen? ⟨g, j, none⟩ = false := fun j => HO2.out.frozenAt j
      have d0 : w2.cell? ⟨g, k, none⟩ = some (.string t) := (hb2.cell (p := ⟨g, k, none⟩) hgl).trans c0
      have HO3 := ghid (HO2.out.stored k (.string t)).1
      rw [HS.out] at HO3
      have HB3 := ghid (HB2.out.setCell (p := ⟨g, k, none⟩) hg (.string t))
      clear hb2 CL
      go_wp2
      go_roundw
      case rel => exact ⟨k + 1, by omega, by go_num, HO3.out, HB3.out⟩
      case measure => simp [intOf]; omega
    · have HO := ghid hown
      have HB := ghid hb
      clear hown hb
      go_wp2
      go_ret
      exact ⟨_, rfl, HO.out, HB.out⟩

theorem ListsR.below {w w' : World} {B : Nat} {v : Value} {tss : List (List ByteArray)} (h : ListsR w B v tss) {B' : Nat} (hb : Below B' w w') (hB : B ≤ B') : ListsR w' B v tss := by
  obtain ⟨b, off, cap, rfl, h1, h2, h3, hc⟩ := h
  refine ⟨b, off, cap, rfl, h1, h2, h3, fun i ts hi => ?_⟩
  obtain ⟨lv, c, ht⟩ := hc i ts hi
  exact ⟨lv, (hb.cell (p := ⟨b, off + i, none⟩) (by simp; omega)).trans c, ht.below hb hB⟩

/-- One list, in a new row. -/
theorem ListsR.one {w : World} {B : Nat} {lv : Value} {ts : List ByteArray} (h : TextsR w B lv ts) (hB : B ≤ w.heap.size) : ListsR (w.alloc (.cells #[lv] 23)) (w.heap.size + 1) (.slice (some ⟨w.heap.size, 0, none⟩) 1 1) [ts] := by
  refine ⟨w.heap.size, 0, 1, rfl, Nat.lt_succ_self _, Nat.le_refl _, by simp, fun i us hi => ?_⟩
  have hi0 : i = 0 := by have := (List.getElem?_eq_some_iff.1 hi).1; simpa using this
  subst hi0
  simp only [List.getElem?_cons_zero, Option.some.injEq] at hi
  subst hi
  exact ⟨lv, cells_of (heap_alloc_new w _) 0, (h.below ((Below.refl w.heap.size w).alloc (Nat.le_refl _) _) hB).mono (by omega)⟩

/-- join of one list, in a new row. -/
theorem join_one (w : World) (B : Nat) (lv : Value) (ts : List ByteArray) (h : TextsR w B lv ts) (hB : B ≤ w.heap.size) :
    Calls Tryd.prog 21 #[.slice (some ⟨w.heap.size, 0, none⟩) 1 1] (w.alloc (.cells #[lv] 23)) fun e w' => ∃ vo vc, e = .returned (.slice vo ts.length vc) ∧ w'.ownsRow (w.heap.size + 1) 9 1 (.slice vo ts.length vc) ts.length (textCells ts) ∧ Below w.heap.size w w' := by
  have hln := h.len
  have hm := h.sizes
  refine (join_own _ [ts] _ _ (ListsR.one h hB) (by simp) (by simpa using hln) (by simpa using hm)).mono ?_
  rintro e w' ⟨vo, rfl, hown, hb⟩
  simp only [List.flatten_cons, List.flatten_nil, List.append_nil] at hown
  obtain ⟨vo, vc, rfl⟩ := grow_shape hown
  exact ⟨vo, vc, rfl, grow_mono hown (by simp), ((Below.refl w.heap.size w).alloc (Nat.le_refl _) _).trans (hb.mono (by simp))⟩

/-- Two lists, in a new row. -/
theorem ListsR.two {w : World} {B : Nat} {lv mv : Value} {ts us : List ByteArray} (h : TextsR w B lv ts) (k : TextsR w B mv us) (hB : B ≤ w.heap.size) : ListsR (w.alloc (.cells #[lv, mv] 23)) (w.heap.size + 1) (.slice (some ⟨w.heap.size, 0, none⟩) 2 2) [ts, us] := by
  refine ⟨w.heap.size, 0, 2, rfl, Nat.lt_succ_self _, Nat.le_refl _, by simp, fun i xs hi => ?_⟩
  have hi0 : i < 2 := by have := (List.getElem?_eq_some_iff.1 hi).1; simpa using this
  have hb := (Below.refl w.heap.size w).alloc (Nat.le_refl _) (.cells #[lv, mv] 23)
  match i, hi0 with
  | 0, _ =>
    simp only [List.getElem?_cons_zero, Option.some.injEq] at hi
    subst hi
    exact ⟨lv, cells_of (heap_alloc_new w _) 0, (h.below hb hB).mono (by omega)⟩
  | 1, _ =>
    simp only [List.getElem?_cons_succ, List.getElem?_cons_zero, Option.some.injEq] at hi
    subst hi
    exact ⟨mv, cells_of (heap_alloc_new w _) 1, (k.below hb hB).mono (by omega)⟩

theorem zset2 {B : Nat} {w0 w : World} (h : Below B w0 w) {b : Nat} (hb : B ≤ b) (a0 a1 : Value) : Below B w0 ((w.setCell ⟨b, 0, none⟩ a0).setCell ⟨b, 1, none⟩ a1) :=
  (h.setCell (by simpa using hb) a0).setCell (by simpa using hb) a1

theorem two_free {w : World} {p : Nat} {x0 x1 : Value} {t : TypeId} (h : w.heap[p]? = some (.cells #[x0, x1] t (0, 0))) :
    w.cell? ⟨p, 0, none⟩ = some x0 ∧ w.cell? ⟨p, 1, none⟩ = some x1 ∧ (∀ j, w.frozen? ⟨p, j, none⟩ = false) ∧ p < w.heap.size :=
  ⟨cells_of h 0, cells_of h 1, fun j => frozen_of_row w p j _ _ h, (Array.getElem?_eq_some_iff.1 h).1⟩

theorem zset2_row {w : World} {base : Nat} {e : TypeId} {size : Nat} {v : Value} {n : Nat} {xs : List Value} (h : w.ownsRow base e size v n xs) {b : Nat} (hb : b < base) (a0 a1 : Value) : ((w.setCell ⟨b, 0, none⟩ a0).setCell ⟨b, 1, none⟩ a1).ownsRow base e size v n xs :=
  grow_keep h fun c hc => by
    have := (h.lt c hc).1
    rw [heap_setCell_other _ _ _ _ (by simp; omega), heap_setCell_other _ _ _ _ (by simp; omega)]

theorem join_twoD (w : World) (B : Nat) (lv mv : Value) (ts us : List ByteArray) (h : TextsR w B lv ts) (k : TextsR w B mv us) (hB : B ≤ w.heap.size) (hl : (ts.length + us.length) * 16 ≤ 140737488351232) :
    Calls Tryd.prog 21 #[.slice (some ⟨w.heap.size, 0, none⟩) 2 2] (w.alloc (.cells #[lv, mv] 23)).drew fun e w' => ∃ vo vc, e = .returned (.slice vo (ts ++ us).length vc) ∧ w'.ownsRow (w.heap.size + 1) 9 1 (.slice vo (ts ++ us).length vc) (ts ++ us).length (textCells (ts ++ us)) ∧ Below w.heap.size w w' := by
  have hm := h.sizes
  have hm2 := k.sizes
  refine (join_own _ [ts, us] (w.alloc (.cells #[lv, mv] 23)).drew _ ((ListsR.two h k hB).below (g_drewN_below _ _ 1) (Nat.le_refl _)) (by simp) (by simpa using hl) (fun t ht => ?_)).mono ?_
  · simp only [List.flatten_cons, List.flatten_nil, List.append_nil, List.mem_append] at ht
    rcases ht with ht | ht
    · exact hm t ht
    · exact hm2 t ht
  rintro e w' ⟨vo, rfl, hown, hb⟩
  simp only [List.flatten_cons, List.flatten_nil, List.append_nil] at hown
  obtain ⟨vo, vc, rfl⟩ := grow_shape hown
  exact ⟨vo, vc, rfl, grow_mono hown (by simp), ((Below.refl w.heap.size w).alloc (Nat.le_refl _) _).drew.trans (hb.mono (by simp))⟩

/-- What join answers of one list, read behind the result's two cells. -/
theorem row_reads2 {w : World} {base : Nat} {v : Value} {ts : List ByteArray} (h : w.ownsRow base 9 1 v ts.length (textCells ts)) (hm : ∀ t ∈ ts, t.size ≤ 140737488351232) (hl : ts.length * 16 ≤ 140737488351232) {b : Nat} (hb : b < base) (a0 a1 : Value) :
    TextsR ((w.setCell ⟨b, 0, none⟩ a0).setCell ⟨b, 1, none⟩ a1) ((w.setCell ⟨b, 0, none⟩ a0).setCell ⟨b, 1, none⟩ a1).heap.size v ts :=
  texts_reads (zset2_row h hb a0 a1) hm hl (Nat.le_refl _)

end Go.Proofs.YtkmeiilnjkmkiaiDoor
