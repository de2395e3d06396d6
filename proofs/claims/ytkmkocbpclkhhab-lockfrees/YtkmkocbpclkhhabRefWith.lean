/- The document's asked and withLock. -/
import Derived.Test.YtkmkocbpclkhhabRefCopy
import Derived.Test.YtkmkocbpclkhhabLockTake
import Derived.Test.YtkmkocbpclkhhabRefFault
namespace Go.Proofs.Ytkmkocbpclkhhab
open Go.RowKit

set_option maxHeartbeats 800000 in
theorem asked_any (v : Value) (ls : List LockD) (nm : ByteArray) (who : Int) (w : World) (B : Nat) (hv : LocksR w B v ls) (hB : B ≤ w.heap.size) (hs : nm.size ≤ 140737488351232) :
    Calls Try.prog 34 #[v, .string nm, .int .i64 who] w fun e w' => e = .returned (.int .i64 (refuseL ls nm who)) ∧ Below w.heap.size w w' := by
  have CC := locksFault_any v ls w B hv hB
  obtain ⟨ao, cap, rfl, -⟩ := hv
  by_cases h0 : checkL ls = 0
  · rw [h0] at CC
    cases hn : nameB nm with
    | false =>
      have e : refuseL ls nm who = 4 := by simp [refuseL, h0, hn]
      rw [e]
      clear e h0
      go_enter Try.func34, Try.ntmps34
      go_wp2_with fail
      refine CC.mono ?_
      rintro e w1 ⟨rfl, hb1⟩
      go_wp2_with fail
      refine (nameMay_any nm _ (by omega)).mono ?_
      rintro e w2 ⟨rfl, rfl⟩
      rw [hn]
      go_wp2
      go_ret
      exact ⟨rfl, hb1⟩
    | true =>
      by_cases hw1 : who < 1
      · have e : refuseL ls nm who = 2 := by simp [refuseL, h0, hn, hw1]
        rw [e]
        clear e h0
        go_enter Try.func34, Try.ntmps34
        go_wp2_with fail
        refine CC.mono ?_
        rintro e w1 ⟨rfl, hb1⟩
        go_wp2_with fail
        refine (nameMay_any nm _ (by omega)).mono ?_
        rintro e w2 ⟨rfl, rfl⟩
        rw [hn]
        go_wp2_with fail
        refine (in_low who 1 9 _ hw1).mono ?_
        rintro e w3 ⟨rfl, rfl⟩
        go_wp2
        go_ret
        exact ⟨rfl, hb1⟩
      · by_cases hw2 : 9 < who
        · have e : refuseL ls nm who = 2 := by simp [refuseL, h0, hn, hw2]
          rw [e]
          clear e h0
          go_enter Try.func34, Try.ntmps34
          go_wp2_with fail
          refine CC.mono ?_
          rintro e w1 ⟨rfl, hb1⟩
          go_wp2_with fail
          refine (nameMay_any nm _ (by omega)).mono ?_
          rintro e w2 ⟨rfl, rfl⟩
          rw [hn]
          go_wp2_with fail
          refine (in_high who 1 9 _ hw2).mono ?_
          rintro e w3 ⟨rfl, rfl⟩
          go_wp2
          go_ret
          exact ⟨rfl, hb1⟩
        · have e : refuseL ls nm who = 0 := by simp [refuseL, h0, hn, show ¬ (who < 1 ∨ 9 < who) by omega]
          rw [e]
          clear e h0
          go_enter Try.func34, Try.ntmps34
          go_wp2_with fail
          refine CC.mono ?_
          rintro e w1 ⟨rfl, hb1⟩
          go_wp2_with fail
          refine (nameMay_any nm _ (by omega)).mono ?_
          rintro e w2 ⟨rfl, rfl⟩
          rw [hn]
          go_wp2_with fail
          refine (in_yes who 1 9 _ (by omega) (by omega)).mono ?_
          rintro e w3 ⟨rfl, rfl⟩
          go_wp2
          go_ret
          exact ⟨rfl, hb1⟩
  · have e : refuseL ls nm who = checkL ls := by simp [refuseL, h0]
    rw [e]
    have h00 : (checkL ls == 0) = false := by simpa using h0
    clear e h0
    go_enter Try.func34, Try.ntmps34
    go_wp2_with fail
    refine CC.mono ?_
    rintro e w1 ⟨rfl, hb1⟩
    go_wp2
    go_ret
    exact ⟨rfl, hb1⟩

/-- A lock put in by its name, its line empty. -/
def insR (x : LockD) : List (LockD × Value) → List (LockD × Value)
  | [] => [(x, .slice none 0 0)]
  | y :: t => if gtN y.1.name x.name = true then (x, .slice none 0 0) :: y :: t else y :: insR x t

theorem insR_place (x : LockD) (rs : List (LockD × Value)) : insR x rs = rs.take (placeL (rs.map (·.1)) x.name) ++ (x, .slice none 0 0) :: rs.drop (placeL (rs.map (·.1)) x.name) := by
  induction rs with
  | nil => simp [insR]
  | cons y t ih =>
    unfold insR placeL
    rw [List.map_cons, List.findIdx_cons]
    cases h : gtN y.1.name x.name with
    | true => simp
    | false =>
      simp only [Bool.false_eq_true, if_false, cond_false]
      rw [ih]
      rfl

theorem placeL_le (ls : List LockD) (nm : ByteArray) : placeL ls nm ≤ ls.length := List.findIdx_le_length

/-- A row of locks, cell by cell. -/
def RowR (w : World) (B : Nat) (v : Value) (rs : List (LockD × Value)) : Prop :=
  ∃ ao cap, v = .slice ao rs.length cap ∧ rs.length ≤ cap ∧ (∀ r ∈ rs, ∃ lo ln lc, r.2 = .slice lo ln lc) ∧
    (0 < rs.length → ∃ b, ao = some ⟨b, 0, none⟩ ∧ b < B ∧ ∀ (k : Nat) (r : LockD × Value), rs[k]? = some r → ∀ (j : Nat) (u : Value), (lockCells r)[j]? = some u → w.cell? ⟨b, k * 4 + j, none⟩ = some u)

theorem OwnL.rowR {w : World} {base : Nat} {v : Value} {rs : List (LockD × Value)} (h : OwnL w base v rs) : RowR w w.heap.size v rs := by
  have hrow := h.row
  have hsh : ∀ r ∈ rs, ∃ lo ln lc, r.2 = .slice lo ln lc := fun r hr => by
    obtain ⟨ao, cap, e⟩ := ownsRow_shape (h.lines.each r hr).1
    exact ⟨_, _, _, e⟩
  rcases hrow.2 with ⟨rfl, hn⟩ | ⟨g, cap, cur, rfl, _, hg, hle, hcm, hcs, htake⟩
  · exact ⟨none, 0, by rw [hn], by omega, hsh, fun h => by omega⟩
  · refine ⟨some ⟨g, 0, none⟩, cap, rfl, hle, hsh, fun _ => ⟨g, rfl, (hrow.lt g rfl).2, fun k r hr j u hj => ?_⟩⟩
    have hk : k < rs.length := (List.getElem?_eq_some_iff.1 hr).1
    have hj4 : j < 4 := (List.getElem?_eq_some_iff.1 hj).1
    rw [hrow.cellAt (k * 4 + j) (by omega), flat_at hr j hj4]
    exact hj

theorem drop_cons' {α : Type} {l : List α} {k : Nat} {x : α} (h : l[k]? = some x) : l.drop k = x :: l.drop (k + 1) := by
  obtain ⟨hk, he⟩ := List.getElem?_eq_some_iff.1 h
  rw [List.drop_eq_getElem_cons hk, he]

/-- One lock more in a row. -/
theorem rowL_append {w w0 w1 : World} {base gn cn : Nat} {v : Value} {o1 : Obj} {rs : List (LockD × Value)} {r : LockD × Value} (h : w.ownsRow base 47 4 v rs.length (flat rs)) (hBw : base ≤ w.heap.size) (he : w0 = w.alloc o1) (hg : w0.grownBy w1 v.ownBlock) (ho : w1.ownsRow base 47 4 (.slice (some ⟨gn, 0, none⟩) (rs.length + 1) cn) (rs.length + 1) (flat rs ++ lockCells r)) :
    w1.ownsRow base 47 4 (.slice (some ⟨gn, 0, none⟩) (rs.length + 1) cn) (rs ++ [r]).length (flat (rs ++ [r])) ∧ Below base w w1 := by
  subst he
  exact ⟨by simpa [flat_snoc] using ho, ((Below.refl _ _).alloc hBw _).grown hg (by simp; omega) (fun k hk => (h.lt k hk).1)⟩

set_option maxRecDepth 100000 in
set_option maxHeartbeats 3200000 in
theorem withLock_any (v : Value) (rs0 : List (LockD × Value)) (xn : ByteArray) (xh xf : Int) (w : World) (B : Nat) (hv : RowR w B v rs0) (hB : B ≤ w.heap.size) (h5 : rs0.length < 5) :
    Calls Try.prog 36 #[v, .agg #[.string xn, .int .i64 xh, .int .i64 xf, .slice none 0 0]] w fun e w' => ∃ v', e = .returned v' ∧ w'.ownsRow w.heap.size 47 4 v' (insR ⟨xn, xh, xf, []⟩ rs0).length (flat (insR ⟨xn, xh, xf, []⟩ rs0)) ∧ Below w.heap.size w w' := by
  obtain ⟨i0, hi, hz0, hz1, hz2⟩ := info_parts Try.infoLock
  obtain ⟨ao, cap, rfl, h1, hshape, h4⟩ := hv
  go_enter Try.func36, Try.ntmps36
  go_wp2
  obtain ⟨W0, hW0⟩ : ∃ W0, W0 = w.alloc (.cells #[.string xn, .int .i64 xh, .int .i64 xf, .slice none 0 0] 47) := ⟨_, rfl⟩
  rw [← hW0]
  have hzW : W0.heap.size = w.heap.size + 1 := by rw [hW0]; simp
  have HZW := Hid.mk' hzW
  have hbW : Below w.heap.size w W0 := by rw [hW0]; exact (Below.refl _ _).alloc (Nat.le_refl _) _
  have HK : Hid (W0.heap[w.heap.size]? = some (.cells #[.string xn, .int .i64 xh, .int .i64 xf, .slice none 0 0] 47 (0, 0))) := by unfold Hid; rw [hW0]; exact heap_alloc_new w _
  have HBW := Hid.mk' hbW
  have HSH := Hid.mk' hshape
  clear hW0 hzW hbW hshape
  go_loopw [5, 6, 7] (fun o d i wr => ∃ (k : Nat) (done : Bool) (rs : List (LockD × Value)), k ≤ rs0.length ∧ i = .int .i64 k ∧ d = .bool done ∧ rs.length ≤ k + 1 ∧
      rs ++ (if done = true then rs0.drop k else insR ⟨xn, xh, xf, []⟩ (rs0.drop k)) = insR ⟨xn, xh, xf, []⟩ rs0 ∧ (done = false → rs.length = k) ∧ wr.ownsRow (w.heap.size + 1) 47 4 o rs.length (flat rs) ∧ Below (w.heap.size + 1) W0 wr)
    (fun _ _ i _ => rs0.length - (intOf i).toNat)
  case atStart => exact ⟨0, false, [], Nat.zero_le _, rfl, rfl, by simp, by simp, fun _ => rfl, World.ownsRow_nil _ _ _ _, Below.refl _ _⟩
  case round =>
    obtain ⟨k, done, rs, hk, rfl, rfl, hrk, heq, hdk, hrow, hb⟩ := hrel
    have HE := Hid.mk' heq
    have HR := Hid.mk' hrow
    have HD := Hid.mk' hdk
    have hbw : Below w.heap.size w wr := HBW.out.trans (hb.mono (by omega))
    have HB := Hid.mk' hb
    have hzr : w.heap.size + 1 ≤ wr.heap.size := by have := hb.size; have := HZW.out; omega
    have gk : wr.heap[w.heap.size]? = some (.cells #[.string xn, .int .i64 xh, .int .i64 xf, .slice none 0 0] 47 (0, 0)) := (hb.block _ (by omega)).trans HK.out
    have y0 : wr.cell? ⟨w.heap.size, 0, none⟩ = some (.string xn) := cell_of_row wr w.heap.size 0 _ _ _ gk
    have y1 : wr.cell? ⟨w.heap.size, 1, none⟩ = some (.int .i64 xh) := cell_of_row wr w.heap.size 1 _ _ _ gk
    have y2 : wr.cell? ⟨w.heap.size, 2, none⟩ = some (.int .i64 xf) := cell_of_row wr w.heap.size 2 _ _ _ gk
    have y3 : wr.cell? ⟨w.heap.size, 3, none⟩ = some (.slice none 0 0) := cell_of_row wr w.heap.size 3 _ _ _ gk
    obtain ⟨oo, oc, rfl⟩ := ownsRow_shape hrow
    clear heq hrow hdk hb gk
    by_cases hlt : k < rs0.length
    · obtain ⟨b, rfl, hbB, hc⟩ := h4 (by omega)
      obtain ⟨r, hr⟩ : ∃ r, rs0[k]? = some r := ⟨_, List.getElem?_eq_getElem hlt⟩
      have HX : Hid (rs0.drop k = r :: rs0.drop (k + 1)) := drop_cons' hr
      obtain ⟨lo, ln, lc, hlv⟩ := HSH.out r (List.mem_of_getElem? hr)
      have kb : ∀ j, wr.cell? ⟨b, j, none⟩ = w.cell? ⟨b, j, none⟩ := fun j => hbw.cell (p := ⟨b, j, none⟩) (by show b < w.heap.size; omega)
      obtain ⟨⟨yn, yh, yf, yl⟩, lv⟩ := r
      simp only at hlv
      subst hlv
      have c0 : wr.cell? ⟨b, k * 4, none⟩ = some (.string yn) := (kb _).trans (hc k _ hr 0 _ rfl)
      have c1 : wr.cell? ⟨b, k * 4 + 1, none⟩ = some (.int .i64 yh) := (kb _).trans (hc k _ hr 1 _ rfl)
      have c2 : wr.cell? ⟨b, k * 4 + 2, none⟩ = some (.int .i64 yf) := (kb _).trans (hc k _ hr 2 _ rfl)
      have c3 : wr.cell? ⟨b, k * 4 + 3, none⟩ = some (.slice lo ln lc) := (kb _).trans (hc k _ hr 3 _ rfl)
      clear hr hc h4 hbw kb
      cases done with
      | true =>
        go_wp2_with fail
        go_quiet (fail)
        go_wp2_with (at_builtin; refine wpList_append_lies _ rfl (.tmp 30) (.tmp 35) 28 rfl (w.heap.size + 1) 47 i0 _ 4 56 Try.underlying28 hi hz0 hz1 hz2 rfl (by decide) _ rs.length (flat rs) rfl (HR.out.alloc _) ⟨wr.heap.size, 0, none⟩ 1 1 (lockCells (⟨yn, yh, yf, yl⟩, .slice lo ln lc)) rfl rfl (World.news_of_block (heap_alloc_new wr _)) (lockCells_one _ rfl) (by omega) (by unfold maxLen; omega) (by omega) (by simp; omega) _ rfl ?_)
        intro gn cn w2 hown2 hg2 hat2 hlt2
        obtain ⟨hR2, hb2⟩ := rowL_append (w := wr.drewN nq) HR.out hzr rfl hg2 hown2
        have HR2 := Hid.mk' hR2
        have HB2 := Hid.mk' (HB.out.trans ((drewN_below _ _ nq).trans hb2))
        clear hown2 hg2 hat2 hlt2 hR2 hb2
        go_wp2
        go_roundw
        case rel =>
          refine ⟨k + 1, true, rs ++ [(⟨yn, yh, yf, yl⟩, .slice lo ln lc)], by omega, by go_num, rfl, by simp; omega, ?_, (by intro h; cases h), HR2.out, HB2.out⟩
          have := HE.out
          rw [HX.out] at this
          rw [← this]
          simp
        case measure => simp [intOf]; omega
      | false =>
        have hrk2 := HD.out rfl
        have HRK := Hid.mk' hrk2
        clear hrk2
        cases hgt : gtN yn xn with
        | false =>
          have hq : (!(Op.bytesLess yn.toList xn.toList || yn.toList == xn.toList)) = false := hgt
          have hq2 : (Op.bytesLess yn.toList xn.toList || yn.toList == xn.toList) = true := by cases h : (Op.bytesLess yn.toList xn.toList || yn.toList == xn.toList) <;> simp_all
          have HGT := Hid.mk' hgt
          clear hgt
          go_wp2_with fail
          go_quiet (fail)
          go_wp2_with (at_builtin; refine wpList_append_lies _ rfl (.tmp 30) (.tmp 35) 28 rfl (w.heap.size + 1) 47 i0 _ 4 56 Try.underlying28 hi hz0 hz1 hz2 rfl (by decide) _ rs.length (flat rs) rfl (HR.out.alloc _) ⟨wr.heap.size, 0, none⟩ 1 1 (lockCells (⟨yn, yh, yf, yl⟩, .slice lo ln lc)) rfl rfl (World.news_of_block (heap_alloc_new wr _)) (lockCells_one _ rfl) (by omega) (by unfold maxLen; omega) (by omega) (by simp; omega) _ rfl ?_)
          intro gn cn w2 hown2 hg2 hat2 hlt2
          obtain ⟨hR2, hb2⟩ := rowL_append (w := wr.drewN nq) HR.out hzr rfl hg2 hown2
          have HR2 := Hid.mk' hR2
          have HB2 := Hid.mk' (HB.out.trans ((drewN_below _ _ nq).trans hb2))
          clear hown2 hg2 hat2 hlt2 hR2 hb2
          go_wp2
          go_roundw
          case rel =>
            refine ⟨k + 1, false, rs ++ [(⟨yn, yh, yf, yl⟩, .slice lo ln lc)], by omega, by go_num, rfl, by simp; omega, ?_, (by intro _; simp [HRK.out]), HR2.out, HB2.out⟩
            have := HE.out
            rw [HX.out] at this
            rw [← this]
            simp [insR, HGT.out]
          case measure => simp [intOf]; omega
        | true =>
          have hq : (!(Op.bytesLess yn.toList xn.toList || yn.toList == xn.toList)) = true := hgt
          have hq2 : (Op.bytesLess yn.toList xn.toList || yn.toList == xn.toList) = false := by simpa using hq
          have HGT := Hid.mk' hgt
          clear hgt
          go_wp2_with fail
          go_quiet (fail)
          go_wp2_with (at_builtin; refine wpList_append_lies _ rfl (.tmp 26) (.tmp 28) 28 rfl (w.heap.size + 1) 47 i0 _ 4 56 Try.underlying28 hi hz0 hz1 hz2 rfl (by decide) _ rs.length (flat rs) rfl (HR.out.alloc _) ⟨wr.heap.size, 0, none⟩ 1 1 (lockCells (⟨xn, xh, xf, []⟩, .slice none 0 0)) rfl rfl (World.news_of_block (heap_alloc_new wr _)) (lockCells_one _ rfl) (by omega) (by unfold maxLen; omega) (by omega) (by simp; omega) _ rfl ?_)
          intro gn cn w2 hown2 hg2 hat2 hlt2
          obtain ⟨hR2, hb2⟩ := rowL_append (w := wr.drewN nq) HR.out hzr rfl hg2 hown2
          have HR2 := Hid.mk' hR2
          have HB2 := Hid.mk' ((drewN_below _ _ nq).trans hb2)
          have hz2' : wr.heap.size ≤ w2.heap.size := HB2.out.size
          have kc : ∀ j, w2.cell? ⟨b, j, none⟩ = wr.cell? ⟨b, j, none⟩ := fun j => HB2.out.cell (p := ⟨b, j, none⟩) (by show b < w.heap.size + 1; omega)
          clear hown2 hg2 hat2 hlt2 hR2 hb2
          go_wp2_with (at_builtin; refine wpList_append_lies _ rfl (.tmp 30) (.tmp 35) 28 rfl (w.heap.size + 1) 47 i0 _ 4 56 Try.underlying28 hi hz0 hz1 hz2 rfl (by decide) _ (rs.length + 1) (flat (rs ++ [(⟨xn, xh, xf, []⟩, .slice none 0 0)])) rfl (((by simpa using HR2.out : w2.ownsRow (w.heap.size + 1) 47 4 (.slice (some ⟨gn, 0, none⟩) (rs.length + 1) cn) (rs.length + 1) (flat (rs ++ [(⟨xn, xh, xf, []⟩, .slice none 0 0)])))).alloc _) ⟨w2.heap.size, 0, none⟩ 1 1 (lockCells (⟨yn, yh, yf, yl⟩, .slice lo ln lc)) rfl rfl (World.news_of_block (heap_alloc_new w2 _)) (lockCells_one _ rfl) (by omega) (by unfold maxLen; omega) (by omega) (by simp; omega) _ rfl ?_)
          intro gm cm w3 hown3 hg3 hat3 hlt3
          have hlen1 : (rs ++ [((⟨xn, xh, xf, []⟩ : LockD), Value.slice none 0 0)]).length = rs.length + 1 := by simp
          obtain ⟨hR3, hb3⟩ := rowL_append HR2.out (by omega) rfl hg3 (by rw [hlen1]; exact hown3)
          rw [show (rs ++ [((⟨xn, xh, xf, []⟩ : LockD), Value.slice none 0 0)]).length + 1 = rs.length + 1 + 1 by simp] at hR3
          have HR3 := Hid.mk' hR3
          have HB3 := Hid.mk' (HB.out.trans (HB2.out.trans hb3))
          clear hown3 hg3 hat3 hlt3 hR3 hb3 hlen1
          go_wp2
          go_roundw
          case rel =>
            refine ⟨k + 1, true, rs ++ [(⟨xn, xh, xf, []⟩, .slice none 0 0)] ++ [(⟨yn, yh, yf, yl⟩, .slice lo ln lc)], by omega, by go_num, rfl, by have := HRK.out; simp; omega, ?_, (by intro h; cases h), HR3.out, HB3.out⟩
            have := HE.out
            rw [HX.out] at this
            rw [← this]
            simp [insR, HGT.out]
          case measure => simp [intOf]; omega
    · have hdr : rs0.drop k = [] := List.drop_of_length_le (by omega)
      have HDR := Hid.mk' hdr
      clear hdr h4
      cases done with
      | true =>
        have HF : Hid (wr.ownsRow w.heap.size 47 4 (.slice oo rs.length oc) (insR ⟨xn, xh, xf, []⟩ rs0).length (flat (insR ⟨xn, xh, xf, []⟩ rs0))) := by
          have e := HE.out
          rw [HDR.out] at e
          simp at e
          rw [← e]
          exact ownsRow_mono HR.out (by omega)
        go_wp2
        go_ret
        exact ⟨_, rfl, HF.out, hbw⟩
      | false =>
        go_wp2_with (at_builtin; refine wpList_append_lies _ rfl (.tmp 39) (.tmp 41) 28 rfl (w.heap.size + 1) 47 i0 _ 4 56 Try.underlying28 hi hz0 hz1 hz2 rfl (by decide) _ rs.length (flat rs) rfl (HR.out.alloc _) ⟨wr.heap.size, 0, none⟩ 1 1 (lockCells (⟨xn, xh, xf, []⟩, .slice none 0 0)) rfl rfl (World.news_of_block (heap_alloc_new wr _)) (lockCells_one _ rfl) (by omega) (by unfold maxLen; omega) (by omega) (by simp; omega) _ rfl ?_)
        intro gn cn w2 hown2 hg2 hat2 hlt2
        obtain ⟨hR2, hb2⟩ := rowL_append HR.out hzr rfl hg2 hown2
        have HF : Hid (w2.ownsRow w.heap.size 47 4 (.slice (some ⟨gn, 0, none⟩) (rs.length + 1) cn) (insR ⟨xn, xh, xf, []⟩ rs0).length (flat (insR ⟨xn, xh, xf, []⟩ rs0))) := by
          have e := HE.out
          rw [HDR.out] at e
          simp [insR] at e
          unfold Hid
          rw [← e]
          exact ownsRow_mono hR2 (by omega)
        have HB2 := Hid.mk' (hbw.trans (hb2.mono (by omega)))
        clear hown2 hg2 hat2 hlt2 hR2 hb2
        go_wp2
        go_ret
        exact ⟨_, rfl, HF.out, HB2.out⟩
end Go.Proofs.Ytkmkocbpclkhhab
