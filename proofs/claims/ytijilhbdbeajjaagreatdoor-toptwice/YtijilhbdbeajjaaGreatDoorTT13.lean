/- pair.Set: a value set, its version one more (joined by program) -/
import Derived.Test.YtijilhbdbeajjaaGreatDoorTT11
import Derived.Test.YtijilhbdbeajjaaGreatDoorTT12
namespace Go.Proofs.YtijilhbdbeajjaaGreatDoor

open Go.RowKit

theorem flatP_mid (a b : List PairD) (x : PairD) : flatP (a ++ x :: b) = flatP a ++ (pairCells x ++ flatP b) := by simp [flatP]

/-- slices.Insert of a pair at its place. -/
theorem pinsert_place (g n i : Nat) (rs : List PairD) (x : PairD) (bx : Nat) (w : World) (base : Nat) (h : w.ownsRow base 89 3 (.slice (some ⟨g, 0, none⟩) n n) n (flatP rs)) (hn : n = rs.length) (h5 : n < 5) (hin : i ≤ n) (hx : ∀ j u, (pairCells x)[j]? = some u → w.cell? ⟨bx, j, none⟩ = some u) (hbx : bx < w.heap.size) :
    Calls Tryz.prog 249 #[.slice (some ⟨g, 0, none⟩) n n, .int .i64 i, .slice (some ⟨bx, 0, none⟩) 1 1] w fun e w' => ∃ v', e = .returned v' ∧ w'.ownsRow w.heap.size 89 3 v' (rs.length + 1) (flatP (rs.take i ++ x :: rs.drop i)) ∧ Below w.heap.size w w' := by
  by_cases e : i = n
  · subst e
    refine (pinsert_end g i rs x bx w base h hn h5 hx).mono ?_
    rintro e w' ⟨v', rfl, ho, hb⟩
    refine ⟨v', rfl, ?_, hb⟩
    have e1 : rs.take i = rs := List.take_of_length_le (by omega)
    have e2 : rs.drop i = [] := List.drop_of_length_le (by omega)
    rw [e1, e2, flatP_mid, ← hn]
    simpa [flatP] using ho
  · refine (pinsert_mid g n i rs x bx w base h hn h5 (by omega) hx hbx).mono ?_
    rintro e w' ⟨v', rfl, ho, hb⟩
    refine ⟨v', rfl, ?_, hb⟩
    rw [flatP_mid, ← hn]
    exact ho

theorem Modest.set {ps : List PairD} (h : Modest ps) {i : Nat} {x : PairD} (hx : ps[i]? = some x) {val : ByteArray} {ver : Int} (hv : val.size ≤ 140737488351232) : Modest (ps.set i ⟨x.name, val, ver⟩) := by
  intro y hy
  rcases List.mem_or_eq_of_mem_set hy with hy | rfl
  · exact h y hy
  · exact ⟨(h x (List.mem_of_getElem? hx)).1, hv⟩

theorem Modest.insert {ps : List PairD} (h : Modest ps) (i : Nat) {nm val : ByteArray} {ver : Int} (hn : nm.size ≤ 140737488351232) (hv : val.size ≤ 140737488351232) : Modest (ps.take i ++ ⟨nm, val, ver⟩ :: ps.drop i) := by
  intro y hy
  rcases List.mem_append.1 hy with hy | hy
  · exact h y (List.mem_of_mem_take hy)
  · rcases List.mem_cons.1 hy with rfl | hy
    · exact ⟨hn, hv⟩
    · exact h y (List.mem_of_mem_drop hy)

/-- The end of Set: the pair put, the reply told. -/
theorem pset_fin {W : World} {base g n cap i b : Nat} {ps : List PairD} {x : PairD} (h : W.ownsRow base 89 3 (.slice (some ⟨g, 0, none⟩) n cap) n (flatP ps)) (hn : n = ps.length) (hx : ps[i]? = some x) (hb : b < base) (hm : Modest ps) (val : ByteArray) (ver : Int) (hv : val.size ≤ 140737488351232) (hl : n ≤ 5) (c m s : Value) :
    PairsR (((((W.setCell ⟨g, i * 3 + 1, none⟩ (.string val)).setCell ⟨g, i * 3 + 2, none⟩ (.int .i64 ver)).setCell ⟨b, 0, none⟩ c).setCell ⟨b, 1, none⟩ m).setCell ⟨b, 2, none⟩ s) W.heap.size (.slice (some ⟨g, 0, none⟩) n cap) (ps.set i ⟨x.name, val, ver⟩) := by
  have h1 := prow_low3 (prow_put h hx val ver) hb c m s
  have e : n = (ps.set i ⟨x.name, val, ver⟩).length := by rw [List.length_set]; exact hn
  refine pairs_reads (base := base) (by rw [← e]; exact h1) (hm.set hx hv) (by rw [← e]; omega) ?_
  simp [World.setCell]

theorem pset_below {w W : World} {B g i b : Nat} (h : Below B w W) (hg : B ≤ g) (hb : B ≤ b) (x y c m s : Value) : Below B w (((((W.setCell ⟨g, i * 3 + 1, none⟩ x).setCell ⟨g, i * 3 + 2, none⟩ y).setCell ⟨b, 0, none⟩ c).setCell ⟨b, 1, none⟩ m).setCell ⟨b, 2, none⟩ s) :=
  pbelow3 ((h.setCell (by simpa using hg) x).setCell (by simpa using hg) y) hb c m s

set_option maxRecDepth 100000 in
set_option maxHeartbeats 3200000 in
theorem Set_there (v : Value) (ps : List PairD) (nm val : ByteArray) (w : World) (B : Nat) (hv : PairsR w B v ps) (hB : B ≤ w.heap.size) (hs : nm.size ≤ 140737488351232) (hs' : val.size ≤ 140737488351232) (hr : refuseP ps nm val = 0) (ht : thereP ps nm = true) :
    Calls Tryz.prog 222 #[v, .string nm, .string val] w fun e w' => ∃ v', e = .returned (.tuple #[v', replyP (setP ps nm val).2.1 (setP ps nm val).2.2 ⟨#[]⟩, .int .i64 0]) ∧ PairsR w' w'.heap.size v' (setP ps nm val).1 ∧ Below w.heap.size w w' := by
  have hb0 : Below w.heap.size w (w.alloc (.cells #[.int .i64 0, .int .i64 0, .string ⟨#[]⟩] 73)) := (Below.refl _ _).alloc (Nat.le_refl _) _
  have CR := prefuse_any v ps nm val _ B (hv.below hb0 hB) (by simp; omega) hs hs'
  rw [hr] at CR
  obtain ⟨hck, hnm, h12⟩ := refuseP_zero hr
  have hg := checkP_good hck
  have h5 := hg.len
  have HM := phid hv.modest
  have HV := phid hv
  obtain ⟨x, hx, hxe⟩ := thereP_yes ht
  have hxv : 1 ≤ x.version ∧ x.version ≤ 1073741824 := (hg.each x (List.mem_of_getElem? hx)).2.2
  have CP := phid (fun u w' hu hB' => place_any u ps nm w' w'.heap.size hu hB')
  rw [ht] at CP
  have hin : placeP ps nm < ps.length := (List.getElem?_eq_some_iff.1 hx).1
  have HX := phid hx
  have HSF := phid (fun h => setP_full (val := val) hx hxe h)
  have HST := phid (fun h => setP_there (val := val) hx hxe h)
  obtain ⟨i, hi⟩ : ∃ i, i = placeP ps nm := ⟨_, rfl⟩
  rw [← hi] at HX hin HST CP
  obtain ⟨ao, cap, rfl, -⟩ := hv
  obtain ⟨xn, xv, xe⟩ := x
  simp only at hxv HST HSF
  clear hr hck hg hx hxe hi ht hnm
  by_cases hfull : xe = 1073741824
  · rw [HSF.out hfull]
    have hf : (xe == 1073741824) = true := by simpa using hfull
    simp only
    clear HSF HST hfull
    go_enter Tryz.func222, Tryz.ntmps222
    go_wp2_with fail
    refine CR.mono ?_
    rintro e w1 ⟨rfl, hb1⟩
    have HR1 := phid ((PReply.new w).below hb1 (by simp))
    have HB1 := phid (hb0.trans (hb1.mono (by simp)))
    clear hb1 hb0 CR
    go_wp2_with fail
    refine (pclone_any _ ps w1 B (HV.out.below HB1.out hB) (by have := HB1.out.size; omega)).mono ?_
    rintro e w2 ⟨rfl, hown2, hb2⟩
    have HR2 := phid (HR1.out.below hb2 HR1.out.lt)
    have HB2 := phid (HB1.out.trans (hb2.mono HB1.out.size))
    have HO2 := phid hown2
    have hrd := pairs_reads hown2 HM.out (by omega) (Nat.le_refl _)
    clear hb2 hown2
    go_wp2_with fail
    refine (CP.out _ _ hrd (Nat.le_refl _)).mono ?_
    rintro e w3 ⟨rfl, hb3⟩
    have HR3 := phid (HR2.out.below hb3 HR2.out.lt)
    have HB3 := phid (HB2.out.trans (hb3.mono HB2.out.size))
    have HO3 := phid (prow_below HO2.out hb3 (Nat.le_refl _))
    obtain ⟨d0, d1, d2, df⟩ := prow_cells HO3.out HX.out rfl
    clear hb3 hrd CP
    go_wp2_with fail
    refine (isFull_there _ _ _ _ xe _ d2 hin).mono ?_
    rintro e w4 ⟨rfl, rfl⟩
    rw [hf]
    obtain ⟨r0, r1, r2, rf⟩ := HR3.out.cells
    have hq : w.heap.size < w4.heap.size := HR3.out.lt
    have hq1 : w.heap.size < w1.heap.size := HR1.out.lt
    go_wp2
    refine bodyPost_ret (v := .tuple #[.slice (some ⟨w1.heap.size, 0, none⟩) ps.length ps.length, replyP 8 0 ⟨#[]⟩, .int .i64 0]) (by simp [results, Tryz.results222, go_sem, replyP, r0, r1, r2]) rfl ⟨_, rfl, ?_, pbelow3 HB3.out (Nat.le_refl _) _ _ _⟩
    exact pairs_reads (prow_low3 HO3.out hq1 _ _ _) HM.out (by omega) (Nat.le_refl _)
  · rw [HST.out hfull]
    have hf : (xe == 1073741824) = false := by simpa using hfull
    have hxe2 : xe + 1 ≤ 1073741824 := by omega
    simp only
    clear HSF HST hfull
    go_enter Tryz.func222, Tryz.ntmps222
    go_wp2_with fail
    refine CR.mono ?_
    rintro e w1 ⟨rfl, hb1⟩
    have HR1 := phid ((PReply.new w).below hb1 (by simp))
    have HB1 := phid (hb0.trans (hb1.mono (by simp)))
    clear hb1 hb0 CR
    go_wp2_with fail
    refine (pclone_any _ ps w1 B (HV.out.below HB1.out hB) (by have := HB1.out.size; omega)).mono ?_
    rintro e w2 ⟨rfl, hown2, hb2⟩
    have HR2 := phid (HR1.out.below hb2 HR1.out.lt)
    have HB2 := phid (HB1.out.trans (hb2.mono HB1.out.size))
    have HO2 := phid hown2
    have hrd := pairs_reads hown2 HM.out (by omega) (Nat.le_refl _)
    clear hb2 hown2
    go_wp2_with fail
    refine (CP.out _ _ hrd (Nat.le_refl _)).mono ?_
    rintro e w3 ⟨rfl, hb3⟩
    have HR3 := phid (HR2.out.below hb3 HR2.out.lt)
    have HB3 := phid (HB2.out.trans (hb3.mono HB2.out.size))
    have HO3 := phid (prow_below HO2.out hb3 (Nat.le_refl _))
    obtain ⟨d0, d1, d2, df⟩ := prow_cells HO3.out HX.out rfl
    clear hb3 hrd CP
    go_wp2_with fail
    refine (isFull_there _ _ _ _ xe _ d2 hin).mono ?_
    rintro e w4 ⟨rfl, rfl⟩
    rw [hf]
    clear d0 d1 d2 df
    go_wp2_with fail
    refine (clone_any val _ (by omega)).mono ?_
    rintro e w5 ⟨rfl, hb5⟩
    have HR5 := phid (HR3.out.below hb5 HR3.out.lt)
    have HB5 := phid (HB3.out.trans (hb5.mono HB3.out.size))
    have HO5 := phid (prow_below HO3.out hb5 (Nat.le_refl _))
    obtain ⟨d0, d1, d2, df⟩ := prow_cells HO5.out HX.out rfl
    obtain ⟨r0, r1, r2, rf⟩ := HR5.out.cells
    have hq : w.heap.size < w5.heap.size := HR5.out.lt
    have hq1 : w.heap.size < w1.heap.size := HR1.out.lt
    have hq2 : w1.heap.size < w5.heap.size := (HO5.out.lt _ rfl).2
    have hq3 : w.heap.size ≠ w1.heap.size := by omega
    have hq4 : w1.heap.size ≠ w.heap.size := by omega
    clear hb5
    go_wp2_with fail
    go_region
    all_goals
      go_wp2
      refine bodyPost_ret (v := .tuple #[.slice (some ⟨w1.heap.size, 0, none⟩) ps.length ps.length, replyP 0 (xe + 1) ⟨#[]⟩, .int .i64 0]) (by simp [results, Tryz.results222, go_sem, replyP, r0, r1, r2]) rfl ⟨_, rfl, ?_, ?_⟩
      · exact ((pset_fin HO5.out rfl HX.out hq1 HM.out val (xe + 1) hs' h5 _ _ _).below (Below.refl _ _).drew (Nat.le_refl _)).mono (by simp [World.setCell])
      · exact (pset_below HB5.out (Nat.le_of_lt hq1) (Nat.le_refl _) _ _ _ _ _).drew

theorem pmid_at (ps : List PairD) (i : Nat) (x : PairD) (h : i ≤ ps.length) : (ps.take i ++ x :: ps.drop i)[i]? = some x := by
  rw [List.getElem?_append_right (by rw [List.length_take]; omega), List.length_take]
  simp [show i - min i ps.length = 0 by omega]

theorem pmid_set (ps : List PairD) (i : Nat) (x y : PairD) (h : i ≤ ps.length) : (ps.take i ++ x :: ps.drop i).set i y = ps.take i ++ y :: ps.drop i := by
  rw [List.set_append_right _ _ (by rw [List.length_take]; omega), List.length_take]
  simp [show i - min i ps.length = 0 by omega]

theorem pmid_len (ps : List PairD) (i : Nat) (x : PairD) (h : i ≤ ps.length) : (ps.take i ++ x :: ps.drop i).length = ps.length + 1 := by
  simp; omega

set_option maxRecDepth 100000 in
set_option maxHeartbeats 3200000 in
theorem Set_none (v : Value) (ps : List PairD) (nm val : ByteArray) (w : World) (B : Nat) (hv : PairsR w B v ps) (hB : B ≤ w.heap.size) (hs : nm.size ≤ 140737488351232) (hs' : val.size ≤ 140737488351232) (hr : refuseP ps nm val = 0) (ht : thereP ps nm = false) :
    Calls Tryz.prog 222 #[v, .string nm, .string val] w fun e w' => ∃ v', e = .returned (.tuple #[v', replyP (setP ps nm val).2.1 (setP ps nm val).2.2 ⟨#[]⟩, .int .i64 0]) ∧ PairsR w' w'.heap.size v' (setP ps nm val).1 ∧ Below w.heap.size w w' := by
  have hb0 : Below w.heap.size w (w.alloc (.cells #[.int .i64 0, .int .i64 0, .string ⟨#[]⟩] 73)) := (Below.refl _ _).alloc (Nat.le_refl _) _
  have CR := prefuse_any v ps nm val _ B (hv.below hb0 hB) (by simp; omega) hs hs'
  rw [hr] at CR
  obtain ⟨hck, hnm, h12⟩ := refuseP_zero hr
  have h5 := (checkP_good hck).len
  have HM := phid hv.modest
  have HV := phid hv
  have CP := phid (fun u w' hu hB' => place_any u ps nm w' w'.heap.size hu hB')
  rw [ht] at CP
  have hin := placeP_le ps nm
  have HSF := phid (fun h => setP_noroom (val := val) ht h)
  have HST := phid (fun h => setP_new (val := val) ht h)
  obtain ⟨i, hi⟩ : ∃ i, i = placeP ps nm := ⟨_, rfl⟩
  rw [← hi] at hin HST CP
  obtain ⟨ao, cap, rfl, -⟩ := hv
  clear hr hck hi ht hnm
  by_cases hfull : ps.length = 5
  · rw [HSF.out hfull]
    have hf : ((ps.length : Int) == 5) = true := by rw [hfull]; rfl
    simp only
    clear HSF HST hfull
    go_enter Tryz.func222, Tryz.ntmps222
    go_wp2_with fail
    refine CR.mono ?_
    rintro e w1 ⟨rfl, hb1⟩
    have HR1 := phid ((PReply.new w).below hb1 (by simp))
    have HB1 := phid (hb0.trans (hb1.mono (by simp)))
    clear hb1 hb0 CR
    go_wp2_with fail
    refine (pclone_any _ ps w1 B (HV.out.below HB1.out hB) (by have := HB1.out.size; omega)).mono ?_
    rintro e w2 ⟨rfl, hown2, hb2⟩
    have HR2 := phid (HR1.out.below hb2 HR1.out.lt)
    have HB2 := phid (HB1.out.trans (hb2.mono HB1.out.size))
    have HO2 := phid hown2
    have hrd := pairs_reads hown2 HM.out (by omega) (Nat.le_refl _)
    clear hb2 hown2
    go_wp2_with fail
    refine (CP.out _ _ hrd (Nat.le_refl _)).mono ?_
    rintro e w3 ⟨rfl, hb3⟩
    have HR3 := phid (HR2.out.below hb3 HR2.out.lt)
    have HB3 := phid (HB2.out.trans (hb3.mono HB2.out.size))
    have HO3 := phid (prow_below HO2.out hb3 (Nat.le_refl _))
    clear hb3 hrd CP
    go_wp2_with fail
    refine (isFull_not _ _ _ _ _).mono ?_
    rintro e w4 ⟨rfl, rfl⟩
    rw [hf]
    obtain ⟨r0, r1, r2, rf⟩ := HR3.out.cells
    have hq : w.heap.size < w4.heap.size := HR3.out.lt
    have hq1 : w.heap.size < w1.heap.size := HR1.out.lt
    go_wp2
    refine bodyPost_ret (v := .tuple #[.slice (some ⟨w1.heap.size, 0, none⟩) ps.length ps.length, replyP 8 0 ⟨#[]⟩, .int .i64 0]) (by simp [results, Tryz.results222, go_sem, replyP, r0, r1, r2]) rfl ⟨_, rfl, ?_, pbelow3 HB3.out (Nat.le_refl _) _ _ _⟩
    exact pairs_reads (prow_low3 HO3.out hq1 _ _ _) HM.out (by omega) (Nat.le_refl _)
  · rw [HST.out hfull]
    have hf : ((ps.length : Int) == 5) = false := by simpa using (show ¬ (ps.length : Int) = 5 by omega)
    have h4 : ps.length < 5 := by omega
    simp only
    clear HSF HST hfull
    go_enter Tryz.func222, Tryz.ntmps222
    go_wp2_with fail
    refine CR.mono ?_
    rintro e w1 ⟨rfl, hb1⟩
    have HR1 := phid ((PReply.new w).below hb1 (by simp))
    have HB1 := phid (hb0.trans (hb1.mono (by simp)))
    clear hb1 hb0 CR
    go_wp2_with fail
    refine (pclone_any _ ps w1 B (HV.out.below HB1.out hB) (by have := HB1.out.size; omega)).mono ?_
    rintro e w2 ⟨rfl, hown2, hb2⟩
    have HR2 := phid (HR1.out.below hb2 HR1.out.lt)
    have HB2 := phid (HB1.out.trans (hb2.mono HB1.out.size))
    have HO2 := phid hown2
    have hrd := pairs_reads hown2 HM.out (by omega) (Nat.le_refl _)
    clear hb2 hown2
    go_wp2_with fail
    refine (CP.out _ _ hrd (Nat.le_refl _)).mono ?_
    rintro e w3 ⟨rfl, hb3⟩
    have HR3 := phid (HR2.out.below hb3 HR2.out.lt)
    have HB3 := phid (HB2.out.trans (hb3.mono HB2.out.size))
    have HO3 := phid (prow_below HO2.out hb3 (Nat.le_refl _))
    clear hb3 hrd CP
    go_wp2_with fail
    refine (isFull_not _ _ _ _ _).mono ?_
    rintro e w4 ⟨rfl, rfl⟩
    rw [hf]
    go_wp2_with fail
    refine (clone_any nm _ (by omega)).mono ?_
    rintro e w5 ⟨rfl, hb5⟩
    have HR5 := phid (HR3.out.below hb5 HR3.out.lt)
    have HB5 := phid (HB3.out.trans (hb5.mono HB3.out.size))
    have HO5 := phid (prow_below HO3.out hb5 (Nat.le_refl _))
    clear hb5
    have hb5' : Below w5.heap.size w5 (w5.alloc (.cells #[.string nm, .string ⟨#[]⟩, .int .i64 0] 89)) := (Below.refl _ _).alloc (Nat.le_refl _) _
    have HR6 := phid (HR5.out.below hb5' HR5.out.lt)
    have HB6 := phid (HB5.out.trans (hb5'.mono HB5.out.size))
    have HO6 := phid (prow_below HO5.out hb5' (Nat.le_refl _))
    clear hb5'
    go_wp2_with fail
    refine (pinsert_place _ _ i ps ⟨nm, ⟨#[]⟩, 0⟩ w5.heap.size _ _ HO6.out rfl h4 hin (by intro j u hj; match j, hj with | 0, hj => simp [pairCells] at hj; subst hj; simp | 1, hj => simp [pairCells] at hj; subst hj; simp | 2, hj => simp [pairCells] at hj; subst hj; simp) (by simp)).mono ?_
    rintro e w7 ⟨v7, rfl, hown7, hb7⟩
    have HR7 := phid (HR6.out.below hb7 HR6.out.lt)
    have HB7 := phid (HB6.out.trans (hb7.mono HB6.out.size))
    obtain ⟨g, cap7, rfl, hg1, hg2, hg3⟩ := prow_some hown7 (by omega)
    have HO7 := phid hown7
    have HX := phid (pmid_at ps i ⟨nm, ⟨#[]⟩, 0⟩ hin)
    have HS := phid (pmid_set ps i ⟨nm, ⟨#[]⟩, 0⟩ ⟨nm, val, 1⟩ hin)
    have HL := phid (pmid_len ps i ⟨nm, ⟨#[]⟩, 0⟩ hin)
    have HMM := phid (HM.out.insert i (ver := 0) hs (by show (⟨#[]⟩ : ByteArray).size ≤ _; decide : (⟨#[]⟩ : ByteArray).size ≤ 140737488351232))
    have hq6 : w.heap.size < g := Nat.lt_of_lt_of_le HR6.out.lt hg1
    clear hb7 hown7
    go_wp2_with fail
    refine (clone_any val _ (by omega)).mono ?_
    rintro e w8 ⟨rfl, hb8⟩
    have HR8 := phid (HR7.out.below hb8 HR7.out.lt)
    have HB8 := phid (HB7.out.trans (hb8.mono HB7.out.size))
    have HO8 := phid (prow_below HO7.out hb8 (Nat.le_refl _))
    obtain ⟨d0, d1, d2, df⟩ := prow_cells HO8.out HX.out HL.out.symm
    simp only at d0 d1 d2
    obtain ⟨r0, r1, r2, rf⟩ := HR8.out.cells
    have hq : w.heap.size < w8.heap.size := HR8.out.lt
    have hq2 : g < w8.heap.size := (HO8.out.lt _ rfl).2
    have hq3 : w.heap.size ≠ g := by omega
    have hq4 : g ≠ w.heap.size := by omega
    have hil : i < ps.length + 1 := by omega
    clear hb8
    go_wp2_with fail
    go_region
    all_goals
      go_wp2
      refine bodyPost_ret (v := .tuple #[.slice (some ⟨g, 0, none⟩) (ps.length + 1) cap7, replyP 0 1 ⟨#[]⟩, .int .i64 0]) (by simp [results, Tryz.results222, go_sem, replyP, r0, r1, r2]) rfl ⟨_, rfl, ?_, ?_⟩
      · have K := pset_fin HO8.out HL.out.symm HX.out (b := w.heap.size) HR6.out.lt HMM.out val 1 hs' (by omega) (.int .i64 0) (.int .i64 1) (.string ⟨#[]⟩)
        rw [HS.out] at K
        exact (K.below (Below.refl _ _).drew (Nat.le_refl _)).mono (by simp [World.setCell])
      · exact (pset_below HB8.out (Nat.le_of_lt hq6) (Nat.le_refl _) _ _ _ _ _).drew

theorem Set_ok (v : Value) (ps : List PairD) (nm val : ByteArray) (w : World) (B : Nat) (hv : PairsR w B v ps) (hB : B ≤ w.heap.size) (hs : nm.size ≤ 140737488351232) (hs' : val.size ≤ 140737488351232) (hr : refuseP ps nm val = 0) :
    Calls Tryz.prog 222 #[v, .string nm, .string val] w fun e w' => ∃ v', e = .returned (.tuple #[v', replyP (setP ps nm val).2.1 (setP ps nm val).2.2 ⟨#[]⟩, .int .i64 0]) ∧ PairsR w' w'.heap.size v' (setP ps nm val).1 ∧ Below w.heap.size w w' := by
  cases ht : thereP ps nm with
  | true => exact Set_there v ps nm val w B hv hB hs hs' hr ht
  | false => exact Set_none v ps nm val w B hv hB hs hs' hr ht

end Go.Proofs.YtijilhbdbeajjaaGreatDoor
