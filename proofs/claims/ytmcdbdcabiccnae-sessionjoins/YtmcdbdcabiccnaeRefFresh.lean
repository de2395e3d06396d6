/- The document's FreshOf. -/
import Derived.Test.YtmcdbdcabiccnaeRefSessF
import Derived.Test.YtmcdbdcabiccnaeRefSessCopy
namespace Go.Proofs.Ytmcdbdcabiccnae
open Go.RowKit

/-- A row of sessions whose replies can be read reads as they are. -/
theorem sess_reads {w : World} {base B : Nat} {v : Value} {rs : List (SessD × Value)} (hrow : w.ownsRow base 57 5 v rs.length (flatG sessCells rs)) (he : ∀ r ∈ rs, KeptsR w B r.2 r.1.replies) (hlen : rs.length * 56 ≤ 140737488351232) (hB : w.heap.size ≤ B) : SessR w B v (rs.map (·.1)) := by
  rcases hrow.2 with ⟨rfl, hn⟩ | ⟨g, cap, cur, rfl, _, hg, hle, hcm, hcs, htake⟩
  · have : rs = [] := List.eq_nil_of_length_eq_zero hn
    subst this
    exact SessR.nil _ _
  · refine ⟨some ⟨g, 0, none⟩, cap, by rw [List.length_map], by rw [List.length_map]; exact hle, by rw [List.length_map]; exact hlen, (by intro h; cases h), fun _ => ⟨g, 0, rfl, ?_, fun i x hx => ?_⟩⟩
    · have := (hrow.lt g rfl).2; omega
    · rw [List.getElem?_map] at hx
      obtain ⟨r, hr, rfl⟩ := Option.map_eq_some_iff.1 hx
      have hi : i < rs.length := (List.getElem?_eq_some_iff.1 hr).1
      have key : ∀ j, j < 5 → w.cell? ⟨g, 0 + i * 5 + j, none⟩ = (sessCells r)[j]? := fun j hj => by
        rw [Nat.zero_add, hrow.cellAt (i * 5 + j) (by omega), flatG_at sessCells_len hr j hj]
      exact ⟨r.2, by simpa [sessCells] using key 0 (by omega), by simpa [sessCells] using key 1 (by omega), by simpa [sessCells] using key 2 (by omega), by simpa [sessCells] using key 3 (by omega), by simpa [sessCells] using key 4 (by omega), he r (List.mem_of_getElem? hr)⟩

theorem filter_take_succ {α : Type} (q : α → Bool) (rs : List α) (k : Nat) (r : α) (hr : rs[k]? = some r) : (rs.take (k + 1)).filter q = (rs.take k).filter q ++ (if q r then [r] else []) := by
  obtain ⟨hk, he⟩ := List.getElem?_eq_some_iff.1 hr
  rw [List.take_succ_eq_append_getElem hk, List.filter_append, he]
  cases h : q r <;> simp [List.filter, h]

theorem freshOf_map (rs : List (SessD × Value)) (i : Int) : (rs.filter fun r => freshP i r.1).map (·.1) = freshS (rs.map (·.1)) i := by
  unfold freshS
  rw [List.filter_map]
  rfl

set_option maxHeartbeats 1600000 in
theorem freshOf_bad (v : Value) (ls : List SessD) (i : Int) (w : World) (B : Nat) (hv : SessR w B v ls) (hB : B ≤ w.heap.size) (hr : checkS ls i ≠ 0) :
    Calls Try.prog 16 #[v, .int .i64 i] w fun e w' => e = .returned (.tuple #[.slice none 0 0, .int .i64 (checkS ls i)]) ∧ Below w.heap.size w w' := by
  have C := sessionsFault_any v ls i w B hv hB
  obtain ⟨ec, hec⟩ : ∃ ec, ec = checkS ls i := ⟨_, rfl⟩
  rw [← hec] at C hr ⊢
  obtain ⟨ao, cap, rfl, -⟩ := hv
  have hr2 : (ec == 0) = false := by simpa using hr
  clear hec
  go_enter Try.func16, Try.ntmps16
  go_wp2_with fail
  refine C.mono ?_
  rintro e w1 ⟨rfl, hb1⟩
  go_wp2
  refine bodyPost_ret (v := .tuple #[.slice none 0 0, .int .i64 ec]) (by simp [results, Try.results16, go_sem]) rfl ?_
  exact ⟨rfl, hb1⟩

set_option maxRecDepth 100000 in
set_option maxHeartbeats 3200000 in
theorem freshOf_ok (v : Value) (ls : List SessD) (i : Int) (w : World) (B : Nat) (hv : SessR w B v ls) (hB : B ≤ w.heap.size) (hr : checkS ls i = 0) :
    Calls Try.prog 16 #[v, .int .i64 i] w fun e w' => ∃ v', e = .returned (.tuple #[v', .int .i64 0]) ∧ SessR w' w'.heap.size v' (freshS ls i) ∧ Below w.heap.size w w' := by
  have C := sessionsFault_any v ls i w B hv hB
  have HGD := ghid (checkS_zero hr)
  rw [hr] at C
  have HV := ghid hv
  obtain ⟨ao, cap, rfl, -⟩ := hv
  obtain ⟨i0, hi, hz0, hz1, hz2⟩ := info_parts Try.infoSess
  go_enter Try.func16, Try.ntmps16
  go_wp2_with fail
  refine C.mono ?_
  rintro e w1 ⟨rfl, hb1⟩
  have HB1 := ghid hb1
  have hz1' := hb1.size
  clear hb1 C
  go_wp2_with fail
  refine (sessionsCopy_any _ ls w1 B (HV.out.below HB1.out hB) (by omega)).mono ?_
  rintro e w2 ⟨v2, rs, rfl, hrs, hown, hb2⟩
  have hz2' : w1.heap.size ≤ w2.heap.size := hb2.size
  have HB2 := ghid (HB1.out.trans (hb2.mono hz1'))
  have HO := ghid hown
  have HRS := ghid hrs
  have hrl : rs.length = ls.length := by rw [← hrs, List.length_map]
  have hl4 : rs.length ≤ 4 := by rw [hrl]; exact HGD.out.len
  have HFN : Hid (∀ r ∈ rs, 0 ≤ r.1.last ∧ r.1.last ≤ 1073741824) := fun r hrm => by
    have hf := rangeB_iff.1 (HGD.out.fine r.1 (by rw [← hrs]; exact List.mem_map.2 ⟨r, hrm, rfl⟩)).range
    have := HGD.out.high
    omega
  obtain ⟨vo, vc, rfl⟩ := grow_shape hown.row
  clear hown hb2 hrs hrl
  go_wp2
  go_loopw [7, 9] (fun o iv wr => ∃ (k : Nat), k ≤ rs.length ∧ iv = .int .i64 k ∧ wr.ownsRow w2.heap.size 57 5 o ((rs.take k).filter fun r => freshP i r.1).length (flatG sessCells ((rs.take k).filter fun r => freshP i r.1)) ∧ Below w2.heap.size w2 wr)
    (fun _ iv _ => rs.length - (intOf iv).toNat)
  case atStart => exact ⟨0, Nat.zero_le _, rfl, by simpa [flatG] using World.ownsRow_nil _ _ _ _, Below.refl _ _⟩
  case round =>
    rename_i o iv wr
    obtain ⟨k, hk, rfl, hrow, hb⟩ := hrel
    have hsz := hb.size
    have HOR := ghid (HO.out.below hb (Nat.le_refl _))
    have HR := ghid hrow
    have HB := ghid hb
    have hfl : ((rs.take k).filter fun r => freshP i r.1).length ≤ k := Nat.le_trans (List.length_filter_le _ _) (by rw [List.length_take]; omega)
    by_cases hlt : k < rs.length
    · obtain ⟨r, hrk⟩ : ∃ r, rs[k]? = some r := ⟨_, List.getElem?_eq_getElem hlt⟩
      obtain ⟨vg, vcap, hve, -, hvl, -⟩ := grow_some HOR.out.row (by omega)
      simp only [Value.slice.injEq, true_and] at hve
      obtain ⟨rfl, rfl⟩ := hve
      obtain ⟨c0, c1, c2, c3, c4⟩ := HOR.out.cells hrk
      have hbd := HFN.out r (List.mem_of_getElem? hrk)
      have HS := ghid (filter_take_succ (fun r : SessD × Value => freshP i r.1) rs k r hrk)
      obtain ⟨oo, oc, rfl⟩ := grow_shape hrow
      obtain ⟨⟨xc, xi, xa, xt, xk⟩, xv⟩ := r
      simp only at c0 c1 c2 c3 c4 hbd HS
      obtain ⟨lo, lc, hxv⟩ := grow_shape (HO.out.reps.each _ (List.mem_of_getElem? hrk)).row
      simp only at hxv
      subst hxv
      obtain ⟨hbd0, hbd1⟩ := hbd
      obtain ⟨nf, hnf⟩ : ∃ nf, nf = ((rs.take k).filter fun r => freshP i r.1).length := ⟨_, rfl⟩
      rw [← hnf] at HR hfl ⊢
      have hnf4 : nf ≤ 4 := by omega
      have HNF := ghid hnf.symm
      clear hrow hb hrk hnf
      by_cases hq : i < xt + 40
      · have HN : Hid ((rs.take (k + 1)).filter (fun r => freshP i r.1) = ((rs.take k).filter fun r => freshP i r.1) ++ [(⟨xc, xi, xa, xt, xk⟩, .slice lo xk.length lc)]) := by
          have f : freshP i ⟨xc, xi, xa, xt, xk⟩ = true := by simp [freshP, hq]
          have := HS.out
          rw [f] at this
          exact this
        clear HS
        obtain ⟨W4, hW4⟩ : ∃ W4, W4 = wr.alloc (.cells #[.int .i64 xc, .int .i64 xi, .int .i64 xa, .int .i64 xt, .slice lo xk.length lc] 57) := ⟨_, rfl⟩
        have HB4 : Hid (Below wr.heap.size wr W4) := by unfold Hid; rw [hW4]; exact (Below.refl _ _).alloc (Nat.le_refl _) _
        have HROW : Hid (W4.ownsRow w2.heap.size 57 5 (.slice oo nf oc) nf (flatG sessCells ((rs.take k).filter fun r => freshP i r.1))) := grow_below HR.out HB4.out (Nat.le_refl _)
        have HNEW : Hid (∀ j u, (sessCells (⟨xc, xi, xa, xt, xk⟩, .slice lo xk.length lc))[j]? = some u → W4.cell? ((⟨wr.heap.size, 0, none⟩ : Addr).add j) = some u) := by
          unfold Hid
          rw [hW4]
          exact World.news_of_block (heap_alloc_new wr _)
        have hz4 : w2.heap.size ≤ W4.heap.size := Nat.le_trans hsz HB4.out.size
        have HW4 := ghid hW4
        clear hW4
        go_wp2_with (at_builtin; refine wpList_append_lies _ rfl (.tmp 32) (.tmp 37) 30 rfl w2.heap.size 57 i0 _ 5 56 Try.underlying30 hi hz0 hz1 hz2 rfl (by decide) (.slice oo nf oc) nf (flatG sessCells ((rs.take k).filter fun r => freshP i r.1)) rfl (by rw [← HW4.out]; exact HROW.out) ⟨wr.heap.size, 0, none⟩ 1 1 (sessCells (⟨xc, xi, xa, xt, xk⟩, .slice lo xk.length lc)) rfl rfl (by rw [← HW4.out]; exact HNEW.out) (sessCells_one _ rfl) (by omega) (by unfold maxLen; omega) (by omega) (by rw [← HW4.out]; exact hz4) _ rfl ?_)
        intro gn cn w5 hown5 hg5 hat5 hlt5
        rw [← HW4.out] at hg5
        have HR5 : Hid (w5.ownsRow w2.heap.size 57 5 (.slice (some ⟨gn, 0, none⟩) (nf + 1) cn) (nf + 1) (flatG sessCells ((rs.take (k + 1)).filter fun r => freshP i r.1))) := by
          unfold Hid
          rw [HN.out, flatG_snoc]
          exact hown5
        have HL5 : Hid (((rs.take (k + 1)).filter fun r => freshP i r.1).length = nf + 1) := by
          unfold Hid
          rw [HN.out, List.length_append, HNF.out]
          rfl
        have HB5 := ghid ((HB.out.trans (HB4.out.mono hsz)).grown hg5 hz4 (fun c hc => (HR.out.lt c hc).1))
        clear hown5 hg5 hat5 hlt5 hi hz0 hz1 hz2
        go_wp2
        go_roundw
        case rel => exact ⟨k + 1, by omega, by go_num, by rw [HL5.out]; exact HR5.out, HB5.out⟩
        case measure => simp [intOf]; omega
      · have HN : Hid ((rs.take (k + 1)).filter (fun r => freshP i r.1) = ((rs.take k).filter fun r => freshP i r.1)) := by
          have f : freshP i ⟨xc, xi, xa, xt, xk⟩ = false := by simp [freshP]; omega
          have := HS.out
          rw [f] at this
          simpa [Hid] using this
        clear HS
        go_wp2
        go_roundw
        case rel => exact ⟨k + 1, by omega, by go_num, by rw [HN.out, HNF.out]; exact HR.out, HB.out⟩
        case measure => simp [intOf]; omega
    · have hkl : k = rs.length := by omega
      subst hkl
      obtain ⟨oo, oc, rfl⟩ := grow_shape hrow
      have HF : Hid (SessR wr wr.heap.size (.slice oo ((rs.take rs.length).filter fun r => freshP i r.1).length oc) (freshS ls i)) := by
        have e1 : rs.take rs.length = rs := List.take_of_length_le (Nat.le_refl _)
        rw [e1] at hrow hfl ⊢
        have := sess_reads (B := wr.heap.size) hrow (fun r hrm => (HOR.out.reps.each r (List.mem_filter.1 hrm).1).reads (Nat.le_refl _)) (by omega) (Nat.le_refl _)
        rw [freshOf_map, HRS.out] at this
        exact this
      obtain ⟨nf, hnf⟩ : ∃ nf, nf = ((rs.take rs.length).filter fun r => freshP i r.1).length := ⟨_, rfl⟩
      rw [← hnf] at HF ⊢
      clear hrow hnf hfl
      go_wp2
      refine bodyPost_ret (v := .tuple #[.slice oo nf oc, .int .i64 0]) (by simp [results, Try.results16, go_sem]) rfl ?_
      exact ⟨_, rfl, HF.out, HB2.out.trans (hb.mono (by omega))⟩
end Go.Proofs.Ytmcdbdcabiccnae
