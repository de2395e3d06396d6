/- slices.DeleteFunc over sessions of the call's own, with whatever closure (joined by program) -/
import Derived.Test.YtijilhbdbeajjaaGreatDoorTT18
namespace Go.Proofs.YtijilhbdbeajjaaGreatDoor

open Go.RowKit

/-- How far a row has come: what is kept of the first j lies in front. -/
structure KeptInvG {α : Type} (keep : α → Bool) (rs ys : List α) (i j : Nat) : Prop where
  len : ys.length = rs.length
  lt : i < j
  le : j ≤ rs.length
  front : ys.take i = (rs.take j).filter keep
  back : ∀ k, j ≤ k → ys[k]? = rs[k]?

theorem KeptInvG.start {α : Type} {keep : α → Bool} {rs : List α} {k0 : Nat} {x : α} (hx : rs[k0]? = some x) (hn : keep x = false) (hb : ∀ (j : Nat) (y : α), j < k0 → rs[j]? = some y → keep y = true) : KeptInvG keep rs rs k0 (k0 + 1) := by
  obtain ⟨hk, he⟩ := List.getElem?_eq_some_iff.1 hx
  refine ⟨rfl, by omega, by omega, ?_, fun _ _ => rfl⟩
  rw [List.take_succ_eq_append_getElem hk, List.filter_append, he]
  have h1 : (rs.take k0).filter keep = rs.take k0 := by
    rw [List.filter_eq_self]
    intro y hy
    obtain ⟨j, hj, hyj⟩ := List.getElem_of_mem hy
    have hj' : j < k0 := by simp at hj; omega
    refine hb j y hj' ?_
    rw [← hyj, List.getElem_take]
    exact List.getElem?_eq_getElem (by omega)
  rw [h1]
  simp [hn]

theorem KeptInvG.skip {α : Type} {keep : α → Bool} {rs ys : List α} {i j : Nat} {x : α} (h : KeptInvG keep rs ys i j) (hx : rs[j]? = some x) (hn : keep x = false) : KeptInvG keep rs ys i (j + 1) := by
  obtain ⟨hk, he⟩ := List.getElem?_eq_some_iff.1 hx
  refine ⟨h.len, by have := h.lt; omega, by omega, ?_, fun k hk => h.back k (by omega)⟩
  rw [h.front, List.take_succ_eq_append_getElem hk, List.filter_append, he]
  simp [hn]

theorem KeptInvG.keep {α : Type} {keep : α → Bool} {rs ys : List α} {i j : Nat} {x : α} (h : KeptInvG keep rs ys i j) (hx : rs[j]? = some x) (hn : keep x = true) : KeptInvG keep rs (ys.set i x) (i + 1) (j + 1) := by
  obtain ⟨hk, he⟩ := List.getElem?_eq_some_iff.1 hx
  have hlt := h.lt
  have hlen := h.len
  refine ⟨by rw [List.length_set]; exact h.len, by omega, by omega, ?_, fun k hk => ?_⟩
  · rw [List.take_succ_eq_append_getElem (by rw [List.length_set]; omega), List.getElem_set_self, List.take_set_of_le (by omega), h.front, List.take_succ_eq_append_getElem hk, List.filter_append, he]
    simp [hn]
  · rw [List.getElem?_set_ne (by omega)]
    exact h.back k (by omega)

theorem KeptInvG.done {α : Type} {keep : α → Bool} {rs ys : List α} {i : Nat} (h : KeptInvG keep rs ys i rs.length) : ys.take i = rs.filter keep := by
  have := h.front
  rwa [List.take_of_length_le (Nat.le_refl _)] at this

/-- A session put into a row. -/
theorem srow_put {w : World} {base g n cap i : Nat} {ys : List (SessD × Value)} {y : SessD × Value} (h : w.ownsRow base 121 5 (.slice (some ⟨g, 0, none⟩) n cap) n (flatG sessCells ys)) (hy : ys[i]? = some y) (r : SessD × Value) :
    (((((w.setCell ⟨g, i * 5, none⟩ (.int .i64 r.1.client)).setCell ⟨g, i * 5 + 1, none⟩ (.int .i64 r.1.id)).setCell ⟨g, i * 5 + 2, none⟩ (.int .i64 r.1.acked)).setCell ⟨g, i * 5 + 3, none⟩ (.int .i64 r.1.last)).setCell ⟨g, i * 5 + 4, none⟩ r.2).ownsRow base 121 5 (.slice (some ⟨g, 0, none⟩) n cap) n (flatG sessCells (ys.set i r)) := by
  obtain ⟨p, s, e, hp, hset⟩ := sess_split hy
  have h' : w.ownsRow base 121 5 (.slice (some ⟨g, 0, none⟩) n cap) n (flatG sessCells p ++ .int .i64 y.1.client :: .int .i64 y.1.id :: .int .i64 y.1.acked :: .int .i64 y.1.last :: y.2 :: flatG sessCells s) := by
    rw [e, flatG_append, flatG_cons] at h
    simpa [sessCells] using h
  have := put5g_own h' (by rw [flatG_length sessCells_len, hp]) (.int .i64 r.1.client) (.int .i64 r.1.id) (.int .i64 r.1.acked) (.int .i64 r.1.last) r.2
  rw [hset, flatG_append, flatG_cons]
  simpa [sessCells] using this

theorem TouchG.put5 {w0 w : World} {S : Nat → Prop} (h : TouchG w0 w S) {g k : Nat} (hg : S g) (a b c d e : Value) : TouchG w0 (((((w.setCell ⟨g, k * 5, none⟩ a).setCell ⟨g, k * 5 + 1, none⟩ b).setCell ⟨g, k * 5 + 2, none⟩ c).setCell ⟨g, k * 5 + 3, none⟩ d).setCell ⟨g, k * 5 + 4, none⟩ e) S :=
  ((((h.setCell (Or.inl hg) a).setCell (Or.inl hg) b).setCell (Or.inl hg) c).setCell (Or.inl hg) d).setCell (Or.inl hg) e

/-- The row's end cleared: the front is as it was. -/
theorem grow_cleared {w : World} {base g n cap i size : Nat} {e : TypeId} {xs zs : List Value} {cur : Array Value} (h : w.ownsRow base e size (.slice (some ⟨g, 0, none⟩) n cap) n xs) (hc : w.heap[g]? = some (.cells cur e (0, 0))) (hi : i ≤ n) (hz : zs.length = (n - i) * size) :
    (w.setRow g (cur.toList.take (i * size) ++ zs ++ cur.toList.drop (i * size + zs.length)).toArray).ownsRow base e size (.slice (some ⟨g, 0, none⟩) i cap) i (xs.take (i * size)) := by
  have ht := grow_take h hi
  rcases ht.2 with ⟨h', _⟩ | ⟨g', cap', cur', h', hg, hh, hle, hcm, hcs, htk⟩
  · cases h'
  simp only [Value.slice.injEq, Option.some.injEq, Addr.mk.injEq, and_true, true_and] at h'
  obtain ⟨rfl, rfl⟩ := h'
  rw [hc] at hh
  simp only [Option.some.injEq, Obj.cells.injEq, and_true] at hh
  subst hh
  have hnc : n ≤ cap := by
    rcases h.2 with ⟨h', _⟩ | ⟨g', cap', cur', h', _, _, hle', _⟩
    · cases h'
    · simp only [Value.slice.injEq, Option.some.injEq, Addr.mk.injEq, and_true, true_and] at h'
      obtain ⟨rfl, rfl⟩ := h'
      exact hle'
  have hmul : i * size + (n - i) * size ≤ cap * size := by rw [← Nat.add_mul]; exact Nat.mul_le_mul_right _ (by omega)
  refine ⟨ht.1, Or.inr ⟨g, cap, _, rfl, hg, setRow_heap _ _ _ _ _ _ hc, hle, hcm, ?_, ?_⟩⟩
  · simp only [List.size_toArray, List.length_append, List.length_take, List.length_drop, Array.length_toList, hcs, hz]
    omega
  · rw [← htk]
    have hl : (cur.toList.take (i * size)).length = i * size := by rw [List.length_take, Array.length_toList, hcs]; omega
    have key : ∀ (A R : List Value), A.length = i * size → (A ++ R).take (i * size) = A := fun A R h => by rw [← h, List.take_left]
    rw [List.append_assoc]
    exact key _ _ hl

theorem first_or_none {α : Type} (q : α → Bool) (rs : List α) : (∃ (k : Nat) (r : α), rs[k]? = some r ∧ q r = true ∧ ∀ (j : Nat) (y : α), j < k → rs[j]? = some y → q y = false) ∨ ∀ (j : Nat) (y : α), rs[j]? = some y → q y = false := by
  by_cases h : rs.findIdx q < rs.length
  · refine Or.inl ⟨rs.findIdx q, rs[rs.findIdx q], List.getElem?_eq_getElem h, List.findIdx_getElem, fun j y hj hy => ?_⟩
    obtain ⟨h1, h2⟩ := List.getElem?_eq_some_iff.1 hy
    have := List.not_of_lt_findIdx hj
    rw [h2] at this
    simpa using this
  · refine Or.inr fun j y hy => ?_
    have he : rs.findIdx q = rs.length := by have := List.findIdx_le_length (p := q) (xs := rs); omega
    rw [List.findIdx_eq_length] at he
    exact he y (List.mem_of_getElem? hy)

theorem sess_zero_one : ∀ v ∈ (Builtin.zeroCells (Value.agg #[.int .i64 0, .int .i64 0, .int .i64 0, .int .i64 0, .slice none 0 0]).cells 1).toList, v.oneCell' = true := by
  intro v hv
  simp only [Builtin.zeroCells, Value.cells, Array.toList_map, List.mem_map, Array.toList_range, List.mem_range] at hv
  obtain ⟨a, ha, rfl⟩ := hv
  have ha' : a < 5 := by simpa using ha
  rcases (by omega : a = 0 ∨ a = 1 ∨ a = 2 ∨ a = 3 ∨ a = 4) with rfl | rfl | rfl | rfl | rfl <;> rfl

set_option maxRecDepth 100000 in
set_option maxHeartbeats 3200000 in
theorem deleteFuncS (g n cap : Nat) (rs : List (SessD × Value)) (cl : Nat) (lb : Array Value) (p : SessD → Bool) (w : World) (base : Nat) (h : OwnS w base (.slice (some ⟨g, 0, none⟩) n cap) rs)
    (eg : ∀ args w, (callFunc cl args).run Tryz.prog w = .ok (.enter cl args) w) (hp : PredS cl lb p (rs.map (·.1)) (fun b => b = g) w) :
    Calls Tryz.prog 52 #[.slice (some ⟨g, 0, none⟩) n cap, .func (.func cl) #[] lb] w fun e w' => ∃ m, e = .returned (.slice (some ⟨g, 0, none⟩) m cap) ∧ OwnS w' base (.slice (some ⟨g, 0, none⟩) m cap) (rs.filter fun r => !p r.1) ∧ TouchG w w' (fun b => b = g) := by
  have hn := h.len_eq
  have CI := indexS _ _ cl lb p _ w w.heap.size (h.reads (Nat.le_refl _)) (Nat.le_refl _) eg hp
  have hlen := h.len
  have HP := ghid hp
  have HO := ghid h
  have hgb := h.block
  obtain ⟨i0, hi, hz0, hz1, hz2⟩ := info_parts Tryz.infoSess
  rcases first_or_none (fun r : SessD × Value => p r.1) rs with ⟨k0, r0, hr0, hpr0, hbef⟩ | hnone
  · skip
    have hk0 : k0 < rs.length := (List.getElem?_eq_some_iff.1 hr0).1
    have hI := (idxI_found (p := p) (ls := rs.map (·.1)) (k := k0) (x := r0.1) (by rw [List.getElem?_map, hr0]; rfl) hpr0 (fun j y hj hy => by
      rw [List.getElem?_map] at hy
      obtain ⟨r, hr, rfl⟩ := Option.map_eq_some_iff.1 hy
      exact hbef j r hj hr)).1
    rw [hI] at CI
    have HST : Hid (KeptInvG (fun r : SessD × Value => !p r.1) rs rs k0 (k0 + 1)) := KeptInvG.start hr0 (by simp [hpr0]) (fun j y hj hy => by simp [hbef j y hj hy])
    have hne1 : ((k0 : Int) == -1) = false := beq_eq_false_iff_ne.2 (by omega)
    subst hn
    clear h hp hbef hr0 hI
    go_enter Tryz.func52, Tryz.ntmps52
    go_wp2_with fail
    refine CI.mono ?_
    rintro e w1 ⟨rfl, hb1⟩
    go_wp2
    go_loopw [5, 6] (fun iv jv wr => ∃ (i j : Nat) (ys : List (SessD × Value)), iv = .int .i64 i ∧ jv = .int .i64 j ∧ KeptInvG (fun r : SessD × Value => !p r.1) rs ys i j ∧ wr.ownsRow base 121 5 (.slice (some ⟨g, 0, none⟩) rs.length cap) rs.length (flatG sessCells ys) ∧ TouchG w wr (fun b => b = g)) (fun _ jv _ => rs.length - (intOf jv).toNat)
    case atStart => exact ⟨k0, k0 + 1, rs, rfl, by go_num, HST.out, grow_below HO.out.row hb1 (Nat.le_refl _), TouchG.of_below hb1 (Nat.le_refl _) _⟩
    case round =>
      clear HST hb1 CI
      obtain ⟨i, j, ys, rfl, rfl, hK, hrow, hT⟩ := hrel
      have hij := hK.lt
      have hjl := hK.le
      have hyl := hK.len
      have hsz := hT.size
      have HK := ghid hK
      have HYL := ghid hyl
      have HR := ghid hrow
      have HT := ghid hT
      have hgr : g < wr.heap.size := by omega
      clear hK hT
      by_cases hlt : j < rs.length
      · obtain ⟨r, hr⟩ : ∃ r, rs[j]? = some r := ⟨_, List.getElem?_eq_getElem hlt⟩
        have hyj : ys[j]? = some r := (HK.out.back j (Nat.le_refl _)).trans hr
        obtain ⟨y, hyi⟩ : ∃ y, ys[i]? = some y := ⟨_, List.getElem?_eq_getElem (by omega)⟩
        have key : ∀ q z, ys[q]? = some z → ∀ o, o < 5 → wr.cell? ⟨g, q * 5 + o, none⟩ = (sessCells z)[o]? := fun q z hz o ho => by
          have hq : q < ys.length := (List.getElem?_eq_some_iff.1 hz).1
          rw [hrow.cellAt (q * 5 + o) (by omega), flatG_at sessCells_len hz o ho]
        have hok : OwnK w base r.2 r.1.replies := HO.out.reps.each r (List.mem_of_getElem? hr)
        obtain ⟨lo, lc, hlv⟩ := grow_shape hok.row
        obtain ⟨⟨xc, xi, xa, xt, xk⟩, xv⟩ := r
        obtain ⟨⟨yc, yi, ya, yt, yk⟩, yv⟩ := y
        simp only at hlv
        subst hlv
        have c0 := key j _ hyj 0 (by omega)
        have c1 := key j _ hyj 1 (by omega)
        have c2 := key j _ hyj 2 (by omega)
        have c3 := key j _ hyj 3 (by omega)
        have c4 := key j _ hyj 4 (by omega)
        have d0 := key i _ hyi 0 (by omega)
        have d1 := key i _ hyi 1 (by omega)
        have d2 := key i _ hyi 2 (by omega)
        have d3 := key i _ hyi 3 (by omega)
        have d4 := key i _ hyi 4 (by omega)
        simp only [sessCells, List.getElem?_cons_zero, List.getElem?_cons_succ, Nat.add_zero] at c0 c1 c2 c3 c4 d0 d1 d2 d3 d4
        have df : ∀ o, wr.frozen? ⟨g, o, none⟩ = false := fun o => hrow.frozenAt o
        have HX := ghid hr
        have HYI := ghid hyi
        have hba : Below wr.heap.size wr (wr.alloc (.cells #[.int .i64 xc, .int .i64 xi, .int .i64 xa, .int .i64 xt, .slice lo xk.length lc] 121)) := (Below.refl _ _).alloc (Nat.le_refl _) _
        have HBA := ghid hba
        have C := HP.out ⟨xc, xi, xa, xt, xk⟩ lo xk.length lc (wr.alloc (.cells #[.int .i64 xc, .int .i64 xi, .int .i64 xa, .int .i64 xt, .slice lo xk.length lc] 121)) (List.mem_map.2 ⟨_, List.mem_of_getElem? hr, rfl⟩) (HT.out.trans (TouchG.of_below hba (Nat.le_refl _) (fun _ => False)) (fun _ _ h => h.elim))
        simp only at C
        have hgne : g ≠ wr.heap.size := by omega
        have hgne' : wr.heap.size ≠ g := by omega
        clear key hok hr hyj hyi hba hrow hyl
        cases hq : p ⟨xc, xi, xa, xt, xk⟩ with
        | true =>
          rw [hq] at C
          have HN := ghid (HK.out.skip HX.out (by simp [hq]))
          clear hq
          go_wp2_with fail
          refine C.mono ?_
          rintro e w2 ⟨rfl, hb2⟩
          have HB2 := ghid (HBA.out.trans (hb2.mono (by simp)))
          clear hb2 C c0 c1 c2 c3 c4 d0 d1 d2 d3 d4
          go_wp2
          go_roundw
          case rel => exact ⟨i, j + 1, ys, rfl, by go_num, HN.out, grow_below HR.out HB2.out (Nat.le_refl _), HT.out.trans (TouchG.of_below HB2.out (Nat.le_refl _) (fun _ => False)) (fun _ _ h => h.elim)⟩
          case measure => simp [intOf]; omega
        | false =>
          rw [hq] at C
          have HN := ghid (HK.out.keep HX.out (by simp [hq]))
          clear hq
          go_wp2_with fail
          refine C.mono ?_
          rintro e w2 ⟨rfl, hb2⟩
          obtain ⟨hc2, hf2⟩ := gcell hb2
          have hz2 : wr.heap.size < w2.heap.size := by have := hb2.size; simp at this; omega
          have hz3 : g < w2.heap.size := by omega
          have HB2 := ghid (HBA.out.trans (hb2.mono (by simp)))
          clear hb2 C
          go_wp2
          go_roundw
          case rel => exact ⟨i + 1, j + 1, ys.set i (⟨xc, xi, xa, xt, xk⟩, .slice lo xk.length lc), by go_num, by go_num, HN.out, srow_put (grow_below HR.out HB2.out (Nat.le_refl _)) HYI.out (⟨xc, xi, xa, xt, xk⟩, .slice lo xk.length lc), (HT.out.trans (TouchG.of_below HB2.out (Nat.le_refl _) (fun _ => False)) (fun _ _ h => h.elim)).put5 rfl _ _ _ _ _⟩
          case measure => simp [intOf]; omega
      · have hje : j = rs.length := by omega
        subst hje
        obtain ⟨cur, hcur, hcs, hnc⟩ : ∃ cur, wr.heap[g]? = some (.cells cur 121 (0, 0)) ∧ cur.size = cap * 5 ∧ rs.length ≤ cap := by
          rcases hrow.2 with ⟨h', _⟩ | ⟨g', cap', cur', h', _, hh, hle', _, hcs', _⟩
          · cases h'
          · simp only [Value.slice.injEq, Option.some.injEq, Addr.mk.injEq, and_true, true_and] at h'
            obtain ⟨rfl, rfl⟩ := h'
            exact ⟨cur', hh, hcs', hle'⟩
        obtain ⟨zs, hzl, hcl⟩ := run_clear_wide (P := Tryz.prog) wr 46 121 i0 _ Tryz.underlying46 hi hz0 sess_zero_one (by simp [Value.cells]) g (i * 5) (rs.length - i) (cap - i) cur _ (by omega) hcur (by simp [Value.cells]; omega)
        obtain ⟨Wf, hWf⟩ : ∃ Wf, Wf = wr.setRow g (cur.toList.take (i * 5) ++ zs ++ cur.toList.drop (i * 5 + zs.length)).toArray := ⟨_, rfl⟩
        rw [← hWf] at hcl
        have HN : Hid (OwnS Wf base (.slice (some ⟨g, 0, none⟩) i cap) (rs.filter fun r => !p r.1)) := by
          have hd := HK.out.done
          rw [hWf]
          have hli : (rs.filter fun r => !p r.1).length = i := by rw [← hd, List.length_take]; omega
          have hrw := grow_cleared HR.out hcur (by omega : i ≤ rs.length) (by simpa [Value.cells] using hzl)
          rw [flatG_take sessCells_len, hd] at hrw
          refine ⟨by rw [hli]; exact hrw, (HO.out.reps.sub List.filter_sublist).keep fun b hb => ?_, by rw [hli]; omega⟩
          have hbm : b ∈ repBlocks rs := (repBlocks_sub List.filter_sublist).subset hb
          have hbg : b ≠ g := fun e => HO.out.apart hbm (by rw [e]; rfl)
          rw [setRow_other _ _ _ _ (by omega)]
          exact HT.out.block b (HO.out.reps.lt hbm).2 hbg
        have HT2 : Hid (TouchG w Wf (fun b => b = g)) := by unfold Hid; rw [hWf]; exact HT.out.setRow (g := g) rfl _
        have hci1 : ¬ cap = i := by omega
        have hci2 : i ≤ cap := by omega
        clear hrow hcur hyl hWf hzl
        go_wp2
        go_ret
        exact ⟨i, rfl, HN.out, HT2.out⟩
  · have hI := (idxI_none (p := p) (ls := rs.map (·.1)) (fun j y hy => by
      rw [List.getElem?_map] at hy
      obtain ⟨r, hr, rfl⟩ := Option.map_eq_some_iff.1 hy
      exact hnone j r hr)).1
    rw [hI] at CI
    have hfil : (rs.filter fun r => !p r.1) = rs := by
      rw [List.filter_eq_self]
      intro r hr
      obtain ⟨j, hj⟩ := List.mem_iff_getElem?.1 hr
      simpa using hnone j r hj
    rw [hfil]
    subst hn
    clear h hp hnone hI hfil hi hz0 hz1 hz2
    go_enter Tryz.func52, Tryz.ntmps52
    go_wp2_with fail
    refine CI.mono ?_
    rintro e w1 ⟨rfl, hb1⟩
    go_wp2
    go_ret
    exact ⟨_, rfl, HO.out.below hb1 (Nat.le_refl _), TouchG.of_below hb1 (Nat.le_refl _) _⟩

end Go.Proofs.YtijilhbdbeajjaaGreatDoor
