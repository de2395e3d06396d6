/- slices.DeleteFunc over kept replies of the call's own, with whatever closure (joined by program) -/
import Derived.Test.YtijilhbdbeajjaaGreatDoorTT18
import Derived.Test.YtijilhbdbeajjaaGreatDoorTT19
namespace Go.Proofs.YtijilhbdbeajjaaGreatDoor

open Go.RowKit

theorem kept_split {ks : List KeptD} {i : Nat} {y : KeptD} (hr : ks[i]? = some y) : ∃ p s, ks = p ++ y :: s ∧ p.length = i ∧ ∀ q, ks.set i q = p ++ q :: s := by
  obtain ⟨hi, he⟩ := List.getElem?_eq_some_iff.1 hr
  have hl : (ks.take i).length = i := by rw [List.length_take]; omega
  have e : ks = ks.take i ++ y :: ks.drop (i + 1) := by rw [← he, ← List.drop_eq_getElem_cons hi, List.take_append_drop]
  refine ⟨ks.take i, ks.drop (i + 1), e, hl, fun q => ?_⟩
  conv => lhs; rw [e]
  rw [List.set_append_right _ _ (by omega), hl]
  simp

/-- A reply put into a row. -/
theorem krow_put {w : World} {base g n cap i : Nat} {ys : List KeptD} {y : KeptD} (h : w.ownsRow base 168 4 (.slice (some ⟨g, 0, none⟩) n cap) n (flatG keptCells ys)) (hy : ys[i]? = some y) (r : KeptD) :
    ((((w.setCell ⟨g, i * 4, none⟩ (.int .i64 r.seq)).setCell ⟨g, i * 4 + 1, none⟩ (.int .i64 r.code)).setCell ⟨g, i * 4 + 2, none⟩ (.int .i64 r.n)).setCell ⟨g, i * 4 + 3, none⟩ (.string r.text)).ownsRow base 168 4 (.slice (some ⟨g, 0, none⟩) n cap) n (flatG keptCells (ys.set i r)) := by
  obtain ⟨p, s, e, hp, hset⟩ := kept_split hy
  have h' : w.ownsRow base 168 4 (.slice (some ⟨g, 0, none⟩) n cap) n (flatG keptCells p ++ .int .i64 y.seq :: .int .i64 y.code :: .int .i64 y.n :: .string y.text :: flatG keptCells s) := by
    rw [e, flatG_append, flatG_cons] at h
    simpa [keptCells] using h
  have := put4g_own h' (by rw [flatG_length keptCells_len, hp]) (.int .i64 r.seq) (.int .i64 r.code) (.int .i64 r.n) (.string r.text)
  rw [hset, flatG_append, flatG_cons]
  simpa [keptCells] using this

theorem TouchG.put4 {w0 w : World} {S : Nat → Prop} (h : TouchG w0 w S) {g k : Nat} (hg : S g) (a b c d : Value) : TouchG w0 ((((w.setCell ⟨g, k * 4, none⟩ a).setCell ⟨g, k * 4 + 1, none⟩ b).setCell ⟨g, k * 4 + 2, none⟩ c).setCell ⟨g, k * 4 + 3, none⟩ d) S :=
  (((h.setCell (Or.inl hg) a).setCell (Or.inl hg) b).setCell (Or.inl hg) c).setCell (Or.inl hg) d

theorem kept_zero_one : ∀ v ∈ (Builtin.zeroCells (Value.agg #[.int .i64 0, .int .i64 0, .int .i64 0, .string ⟨#[]⟩]).cells 1).toList, v.oneCell' = true := by
  intro v hv
  simp only [Builtin.zeroCells, Value.cells, Array.toList_map, List.mem_map, Array.toList_range, List.mem_range] at hv
  obtain ⟨a, ha, rfl⟩ := hv
  have ha' : a < 4 := by simpa using ha
  rcases (by omega : a = 0 ∨ a = 1 ∨ a = 2 ∨ a = 3) with rfl | rfl | rfl | rfl <;> rfl

set_option maxRecDepth 100000 in
set_option maxHeartbeats 3200000 in
theorem deleteFuncK (g n cap : Nat) (rs : List KeptD) (cl : Nat) (lb : Array Value) (p : KeptD → Bool) (w : World) (base : Nat) (h : OwnK w base (.slice (some ⟨g, 0, none⟩) n cap) rs) (hn : n = rs.length)
    (eg : ∀ args w, (callFunc cl args).run Tryz.prog w = .ok (.enter cl args) w) (hp : PredK cl lb p rs (fun b => b = g) w) :
    Calls Tryz.prog 88 #[.slice (some ⟨g, 0, none⟩) n cap, .func (.func cl) #[] lb] w fun e w' => ∃ m, e = .returned (.slice (some ⟨g, 0, none⟩) m cap) ∧ OwnK w' base (.slice (some ⟨g, 0, none⟩) m cap) (rs.filter fun r => !p r) ∧ TouchG w w' (fun b => b = g) := by
  have CI := indexK _ _ cl lb p _ w w.heap.size (h.reads (Nat.le_refl _)) (Nat.le_refl _) eg hp
  have hlen := h.len
  have HP := ghid hp
  have HO := ghid h
  have hgb := h.row.lt g rfl
  obtain ⟨i0, hi, hz0, hz1, hz2⟩ := info_parts Tryz.infoKept
  subst hn
  rcases first_or_none p rs with ⟨k0, r0, hr0, hpr0, hbef⟩ | hnone
  · have hk0 : k0 < rs.length := (List.getElem?_eq_some_iff.1 hr0).1
    have hI := (idxI_found hr0 hpr0 hbef).1
    rw [hI] at CI
    have HST : Hid (KeptInvG (fun r : KeptD => !p r) rs rs k0 (k0 + 1)) := KeptInvG.start hr0 (by simp [hpr0]) (fun j y hj hy => by simp [hbef j y hj hy])
    have hne1 : ((k0 : Int) == -1) = false := beq_eq_false_iff_ne.2 (by omega)
    clear h hp hbef hr0 hI
    go_enter Tryz.func88, Tryz.ntmps88
    go_wp2_with fail
    refine CI.mono ?_
    rintro e w1 ⟨rfl, hb1⟩
    go_wp2
    go_loopw [5, 6] (fun iv jv wr => ∃ (i j : Nat) (ys : List KeptD), iv = .int .i64 i ∧ jv = .int .i64 j ∧ KeptInvG (fun r : KeptD => !p r) rs ys i j ∧ wr.ownsRow base 168 4 (.slice (some ⟨g, 0, none⟩) rs.length cap) rs.length (flatG keptCells ys) ∧ TouchG w wr (fun b => b = g)) (fun _ jv _ => rs.length - (intOf jv).toNat)
    case atStart => exact ⟨k0, k0 + 1, rs, rfl, by go_num, HST.out, grow_below HO.out.row hb1 (Nat.le_refl _), TouchG.of_below hb1 (Nat.le_refl _) _⟩
    case round =>
      clear HST hb1 CI
      obtain ⟨i, j, ys, rfl, rfl, hK, hrow, hT⟩ := hrel
      have hij := hK.lt
      have hjl := hK.le
      have hyl := hK.len
      have hsz := hT.size
      have HK := ghid hK
      have HYL := ghid hyl
      have HR := ghid hrow
      have HT := ghid hT
      have hgr : g < wr.heap.size := by omega
      clear hK hT
      by_cases hlt : j < rs.length
      · obtain ⟨r, hr⟩ : ∃ r, rs[j]? = some r := ⟨_, List.getElem?_eq_getElem hlt⟩
        have hyj : ys[j]? = some r := (HK.out.back j (Nat.le_refl _)).trans hr
        obtain ⟨y, hyi⟩ : ∃ y, ys[i]? = some y := ⟨_, List.getElem?_eq_getElem (by omega)⟩
        have key : ∀ q z, ys[q]? = some z → ∀ o, o < 4 → wr.cell? ⟨g, q * 4 + o, none⟩ = (keptCells z)[o]? := fun q z hz o ho => by
          have hq : q < ys.length := (List.getElem?_eq_some_iff.1 hz).1
          rw [hrow.cellAt (q * 4 + o) (by omega), flatG_at keptCells_len hz o ho]
        obtain ⟨xs, xc, xn, xt⟩ := r
        obtain ⟨ys', yc, yn, yt⟩ := y
        have c0 := key j _ hyj 0 (by omega)
        have c1 := key j _ hyj 1 (by omega)
        have c2 := key j _ hyj 2 (by omega)
        have c3 := key j _ hyj 3 (by omega)
        have d0 := key i _ hyi 0 (by omega)
        have d1 := key i _ hyi 1 (by omega)
        have d2 := key i _ hyi 2 (by omega)
        have d3 := key i _ hyi 3 (by omega)
        simp only [keptCells, List.getElem?_cons_zero, List.getElem?_cons_succ, Nat.add_zero] at c0 c1 c2 c3 d0 d1 d2 d3
        have df : ∀ o, wr.frozen? ⟨g, o, none⟩ = false := fun o => hrow.frozenAt o
        have HX := ghid hr
        have HYI := ghid hyi
        have hba : Below wr.heap.size wr (wr.alloc (.cells #[.int .i64 xs, .int .i64 xc, .int .i64 xn, .string xt] 168)) := (Below.refl _ _).alloc (Nat.le_refl _) _
        have HBA := ghid hba
        have C := HP.out ⟨xs, xc, xn, xt⟩ (wr.alloc (.cells #[.int .i64 xs, .int .i64 xc, .int .i64 xn, .string xt] 168)) (List.mem_of_getElem? hr) (HT.out.trans (TouchG.of_below hba (Nat.le_refl _) (fun _ => False)) (fun _ _ h => h.elim))
        simp only at C
        have hgne : g ≠ wr.heap.size := by omega
        have hgne' : wr.heap.size ≠ g := by omega
        clear key hr hyj hyi hba hrow hyl
        cases hq : p ⟨xs, xc, xn, xt⟩ with
        | true =>
          rw [hq] at C
          have HN := ghid (HK.out.skip HX.out (by simp [hq]))
          clear hq
          go_wp2_with fail
          refine C.mono ?_
          rintro e w2 ⟨rfl, hb2⟩
          have HB2 := ghid (HBA.out.trans (hb2.mono (by simp)))
          clear hb2 C c0 c1 c2 c3 d0 d1 d2 d3
          go_wp2
          go_roundw
          case rel => exact ⟨i, j + 1, ys, rfl, by go_num, HN.out, grow_below HR.out HB2.out (Nat.le_refl _), HT.out.trans (TouchG.of_below HB2.out (Nat.le_refl _) (fun _ => False)) (fun _ _ h => h.elim)⟩
          case measure => simp [intOf]; omega
        | false =>
          rw [hq] at C
          have HN := ghid (HK.out.keep HX.out (by simp [hq]))
          clear hq
          go_wp2_with fail
          refine C.mono ?_
          rintro e w2 ⟨rfl, hb2⟩
          obtain ⟨hc2, hf2⟩ := gcell hb2
          have hz2 : wr.heap.size < w2.heap.size := by have := hb2.size; simp at this; omega
          have hz3 : g < w2.heap.size := by omega
          have HB2 := ghid (HBA.out.trans (hb2.mono (by simp)))
          clear hb2 C
          go_wp2
          go_roundw
          case rel => exact ⟨i + 1, j + 1, ys.set i ⟨xs, xc, xn, xt⟩, by go_num, by go_num, HN.out, krow_put (grow_below HR.out HB2.out (Nat.le_refl _)) HYI.out ⟨xs, xc, xn, xt⟩, (HT.out.trans (TouchG.of_below HB2.out (Nat.le_refl _) (fun _ => False)) (fun _ _ h => h.elim)).put4 rfl _ _ _ _⟩
          case measure => simp [intOf]; omega
      · have hje : j = rs.length := by omega
        subst hje
        obtain ⟨cur, hcur, hcs, hnc⟩ : ∃ cur, wr.heap[g]? = some (.cells cur 168 (0, 0)) ∧ cur.size = cap * 4 ∧ rs.length ≤ cap := by
          rcases hrow.2 with ⟨h', _⟩ | ⟨g', cap', cur', h', _, hh, hle', _, hcs', _⟩
          · cases h'
          · simp only [Value.slice.injEq, Option.some.injEq, Addr.mk.injEq, and_true, true_and] at h'
            obtain ⟨rfl, rfl⟩ := h'
            exact ⟨cur', hh, hcs', hle'⟩
        obtain ⟨zs, hzl, hcl⟩ := run_clear_wide (P := Tryz.prog) wr 119 168 i0 _ Tryz.underlying119 hi hz0 kept_zero_one (by simp [Value.cells]) g (i * 4) (rs.length - i) (cap - i) cur _ (by omega) hcur (by simp [Value.cells]; omega)
        obtain ⟨Wf, hWf⟩ : ∃ Wf, Wf = wr.setRow g (cur.toList.take (i * 4) ++ zs ++ cur.toList.drop (i * 4 + zs.length)).toArray := ⟨_, rfl⟩
        rw [← hWf] at hcl
        have HN : Hid (OwnK Wf base (.slice (some ⟨g, 0, none⟩) i cap) (rs.filter fun r => !p r)) := by
          have hd := HK.out.done
          rw [hWf]
          have hli : (rs.filter fun r => !p r).length = i := by rw [← hd, List.length_take]; omega
          have hrw := grow_cleared HR.out hcur (by omega : i ≤ rs.length) (by simpa [Value.cells] using hzl)
          rw [flatG_take keptCells_len, hd] at hrw
          exact ⟨by rw [hli]; exact hrw, by rw [hli]; omega, fun k hk => HO.out.modest k (List.mem_filter.1 hk).1⟩
        have HT2 : Hid (TouchG w Wf (fun b => b = g)) := by unfold Hid; rw [hWf]; exact HT.out.setRow (g := g) rfl _
        have hci1 : ¬ cap = i := by omega
        have hci2 : i ≤ cap := by omega
        clear hrow hcur hyl hWf hzl
        go_wp2
        go_ret
        exact ⟨i, rfl, HN.out, HT2.out⟩
  · have hI := (idxI_none hnone).1
    rw [hI] at CI
    have hfil : (rs.filter fun r => !p r) = rs := by
      rw [List.filter_eq_self]
      intro r hr
      obtain ⟨j, hj⟩ := List.mem_iff_getElem?.1 hr
      simpa using hnone j r hj
    rw [hfil]
    clear h hp hnone hI hfil hi hz0 hz1 hz2
    go_enter Tryz.func88, Tryz.ntmps88
    go_wp2_with fail
    refine CI.mono ?_
    rintro e w1 ⟨rfl, hb1⟩
    go_wp2
    go_ret
    exact ⟨_, rfl, HO.out.below hb1 (Nat.le_refl _), TouchG.of_below hb1 (Nat.le_refl _) _⟩

end Go.Proofs.YtijilhbdbeajjaaGreatDoor
