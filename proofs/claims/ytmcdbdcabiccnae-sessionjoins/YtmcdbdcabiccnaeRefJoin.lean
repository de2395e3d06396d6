/- The document's JoinedOf. (Written by gen_joined.py.) -/
import Derived.Test.YtmcdbdcabiccnaeRefSessF
import Derived.Test.YtmcdbdcabiccnaeRefSessCopy
import Derived.Test.YtmcdbdcabiccnaeRefSessAt
import Derived.Test.YtmcdbdcabiccnaeRefFresh
import Derived.Test.YtmcdbdcabiccnaeSessJoinMath
import Derived.Test.YtmcdbdcabiccnaeSessReply
import Derived.RegionTactic
import Derived.BigRegion
namespace Go.Proofs.Ytmcdbdcabiccnae
open Go.RowKit

/-- What has come out behind k sessions, one more to be put at p. -/
def outAt (rs : List (SessD × Value)) (r0 : SessD × Value) (p k : Nat) : List (SessD × Value) := if k ≤ p then rs.take k else rs.take p ++ r0 :: (rs.take k).drop p

theorem stake_succ {rs : List (SessD × Value)} {k : Nat} {r : SessD × Value} (h : rs[k]? = some r) : rs.take (k + 1) = rs.take k ++ [r] := by
  obtain ⟨hk, he⟩ := List.getElem?_eq_some_iff.1 h
  rw [List.take_succ_eq_append_getElem hk, he]

theorem outAt_low {rs : List (SessD × Value)} {r0 r : SessD × Value} {p k : Nat} (h : k < p) (hr : rs[k]? = some r) : outAt rs r0 p (k + 1) = outAt rs r0 p k ++ [r] := by
  unfold outAt
  rw [if_pos (by omega), if_pos (by omega), stake_succ hr]

theorem outAt_at {rs : List (SessD × Value)} {r0 r : SessD × Value} {p : Nat} (hr : rs[p]? = some r) : outAt rs r0 p (p + 1) = (outAt rs r0 p p ++ [r0]) ++ [r] := by
  have hp : p < rs.length := (List.getElem?_eq_some_iff.1 hr).1
  unfold outAt
  rw [if_neg (by omega), if_pos (Nat.le_refl _), stake_succ hr]
  have : (rs.take p).length = p := by rw [List.length_take]; omega
  rw [List.drop_append_of_le_length (by omega), List.drop_of_length_le (by omega)]
  simp

theorem outAt_high {rs : List (SessD × Value)} {r0 r : SessD × Value} {p k : Nat} (h : p < k) (hr : rs[k]? = some r) : outAt rs r0 p (k + 1) = outAt rs r0 p k ++ [r] := by
  have hk : k < rs.length := (List.getElem?_eq_some_iff.1 hr).1
  unfold outAt
  rw [if_neg (by omega), if_neg (by omega), stake_succ hr]
  have : (rs.take k).length = k := by rw [List.length_take]; omega
  rw [List.drop_append_of_le_length (by omega)]
  simp

theorem outAt_len {rs : List (SessD × Value)} {r0 : SessD × Value} {p k : Nat} (h : k ≤ rs.length) : (outAt rs r0 p k).length ≤ k + 1 := by
  unfold outAt
  split
  · rw [List.length_take]; omega
  · simp only [List.length_append, List.length_take, List.length_cons, List.length_drop]; omega

theorem outAt_mem {rs : List (SessD × Value)} {r0 r : SessD × Value} {p k : Nat} (h : r ∈ outAt rs r0 p k) : r ∈ rs ∨ r = r0 := by
  unfold outAt at h
  split at h
  · exact Or.inl (List.mem_of_mem_take h)
  · rcases List.mem_append.1 h with h | h
    · exact Or.inl (List.mem_of_mem_take h)
    · rcases List.mem_cons.1 h with h | h
      · exact Or.inr h
      · exact Or.inl (List.mem_of_mem_take (List.mem_of_mem_drop h))

theorem outAt_done {rs : List (SessD × Value)} {r0 : SessD × Value} {p : Nat} (h : p < rs.length) : outAt rs r0 p rs.length = rs.take p ++ r0 :: rs.drop p := by
  unfold outAt
  rw [if_neg (by omega), List.take_of_length_le (Nat.le_refl rs.length)]

theorem outAt_last {rs : List (SessD × Value)} {r0 : SessD × Value} : outAt rs r0 rs.length rs.length ++ [r0] = rs.take rs.length ++ r0 :: rs.drop rs.length := by
  unfold outAt
  rw [if_pos (Nat.le_refl _)]
  simp

set_option maxRecDepth 100000 in
set_option maxHeartbeats 1600000 in
theorem joinedOf_bad (v : Value) (ls : List SessD) (i c : Int) (w : World) (B : Nat) (hv : SessR w B v ls) (hB : B ≤ w.heap.size) (hr : joinE ls i c ≠ 0) :
    Calls Try.prog 18 #[v, .int .i64 i, .int .i64 c] w fun e w' => e = .returned (.tuple #[.slice none 0 0, .agg #[.int .i64 0, .int .i64 0, .string ⟨#[]⟩], .int .i64 (joinE ls i c)]) ∧ Below w.heap.size w w' := by
  have hb0 : Below w.heap.size w (w.alloc (.cells #[.int .i64 0, .int .i64 0, .string ⟨#[]⟩] 39)) := (Below.refl _ _).alloc (Nat.le_refl _) _
  have CR := sessionsFault_any v ls i _ B (hv.below hb0 hB) (by simp; omega)
  obtain ⟨ao, cap, rfl, -⟩ := hv
  by_cases h1 : checkS ls i = 0
  · have h2 : ¬ ((1 ≤ c ∧ c ≤ 9) ∧ i ≠ 1073741824) := fun e => hr (by unfold joinE; rw [if_neg (by simpa using h1), if_pos e])
    rw [joinE_range h1 h2]
    rw [h1] at CR
    clear hr h1
    by_cases h3 : 1 ≤ c ∧ c ≤ 9
    · have h4 : i = 1073741824 := by
        by_cases e : i = 1073741824
        · exact e
        · exact absurd ⟨h3, e⟩ h2
      subst h4
      clear h2
      go_enter Try.func18, Try.ntmps18
      go_wp2_with fail
      refine CR.mono ?_
      rintro e w1 ⟨rfl, hb1⟩
      have HR1 := ghid ((GReply.new w).below hb1 (by simp))
      have HB1 := ghid (hb0.trans (hb1.mono (by simp)))
      clear hb1 hb0 CR
      go_wp2_with fail
      refine (in_yes c 1 9 _ h3.1 h3.2).mono ?_
      rintro e w9 ⟨rfl, hw⟩
      subst w9
      obtain ⟨r0, r1, r2, rf⟩ := HR1.out.cells
      have hq : w.heap.size < w1.heap.size := HR1.out.lt
      go_wp2
      refine bodyPost_ret (v := .tuple #[.slice none 0 0, .agg #[.int .i64 0, .int .i64 0, .string ⟨#[]⟩], .int .i64 2]) (by simp [results, Try.results18, go_sem, r0, r1, r2]) rfl ?_
      exact ⟨rfl, gbelow3 HB1.out (Nat.le_refl _) _ _ _⟩
    · have h4 : c < 1 ∨ 9 < c := by omega
      clear h2 h3
      go_enter Try.func18, Try.ntmps18
      go_wp2_with fail
      refine CR.mono ?_
      rintro e w1 ⟨rfl, hb1⟩
      have HR1 := ghid ((GReply.new w).below hb1 (by simp))
      have HB1 := ghid (hb0.trans (hb1.mono (by simp)))
      clear hb1 hb0 CR
      go_wp2_with fail
      refine (in_no c 1 9 _ h4).mono ?_
      rintro e w9 ⟨rfl, hw⟩
      subst w9
      obtain ⟨r0, r1, r2, rf⟩ := HR1.out.cells
      have hq : w.heap.size < w1.heap.size := HR1.out.lt
      go_wp2
      refine bodyPost_ret (v := .tuple #[.slice none 0 0, .agg #[.int .i64 0, .int .i64 0, .string ⟨#[]⟩], .int .i64 2]) (by simp [results, Try.results18, go_sem, r0, r1, r2]) rfl ?_
      exact ⟨rfl, gbelow3 HB1.out (Nat.le_refl _) _ _ _⟩
  · rw [joinE_check h1]
    obtain ⟨ec, hec⟩ : ∃ ec, ec = checkS ls i := ⟨_, rfl⟩
    rw [← hec] at CR h1 ⊢
    have hr2 : (ec == 0) = false := by simpa using h1
    clear hec hr
    go_enter Try.func18, Try.ntmps18
    go_wp2_with fail
    refine CR.mono ?_
    rintro e w1 ⟨rfl, hb1⟩
    have HR1 := ghid ((GReply.new w).below hb1 (by simp))
    have HB1 := ghid (hb0.trans (hb1.mono (by simp)))
    clear hb1 hb0 CR
    obtain ⟨r0, r1, r2, rf⟩ := HR1.out.cells
    have hq : w.heap.size < w1.heap.size := HR1.out.lt
    go_wp2
    refine bodyPost_ret (v := .tuple #[.slice none 0 0, .agg #[.int .i64 0, .int .i64 0, .string ⟨#[]⟩], .int .i64 ec]) (by simp [results, Try.results18, go_sem, r0, r1, r2]) rfl ?_
    exact ⟨rfl, gbelow3 HB1.out (Nat.le_refl _) _ _ _⟩

set_option maxRecDepth 100000 in
set_option maxHeartbeats 3200000 in
theorem joinedOf_ok (v : Value) (ls : List SessD) (i c : Int) (w : World) (B : Nat) (hv : SessR w B v ls) (hB : B ≤ w.heap.size) (hr : joinE ls i c = 0) :
    Calls Try.prog 18 #[v, .int .i64 i, .int .i64 c] w fun e w' => ∃ v', e = .returned (.tuple #[v', .agg #[.int .i64 (joinS ls i c).2.code, .int .i64 (joinS ls i c).2.n, .string (joinS ls i c).2.text], .int .i64 0]) ∧ SessR w' w'.heap.size v' (joinS ls i c).1 ∧ Below w.heap.size w w' := by
  have hb0 : Below w.heap.size w (w.alloc (.cells #[.int .i64 0, .int .i64 0, .string ⟨#[]⟩] 39)) := (Below.refl _ _).alloc (Nat.le_refl _) _
  have CR := sessionsFault_any v ls i _ B (hv.below hb0 hB) (by simp; omega)
  obtain ⟨h1, h3, h2⟩ := joinE_zero hr
  have HGD := ghid (checkS_zero h1)
  have hi0 := HGD.out.low
  have hi1 := HGD.out.high
  have hi2 : ¬ 1073741824 ≤ i := by omega
  have hl4 := HGD.out.len
  rw [h1] at CR
  have HV := ghid hv
  have hin : placeS ls c ≤ ls.length := List.findIdx_le_length
  obtain ⟨i0, hi, hz0, hz1, hz2⟩ := info_parts Try.infoSess
  obtain ⟨ao, cap, rfl, -⟩ := hv
  cases ht : thereS ls c with
  | true =>
    obtain ⟨x, hx, hxc⟩ := thereS_some ht
    rw [joinS_there ht hx]
    have CP := ghid (fun u w' hu => sessionAt_found u ls c (placeS ls c) x w' w'.heap.size hu hx hxc (fun j y hj hy => by have := placeS_before hj hy; omega))
    have hlt : placeS ls c < ls.length := (List.getElem?_eq_some_iff.1 hx).1
    obtain ⟨n, hne⟩ : ∃ n, n = placeS ls c := ⟨_, rfl⟩
    rw [← hne] at CP hx hin hlt ⊢
    have HX := ghid hx
    obtain ⟨xc, xi, xa, xt, xk⟩ := x
    simp only
    clear hne ht hr h1 hx h2 hxc
    go_enter Try.func18, Try.ntmps18
    go_wp2_with fail
    refine CR.mono ?_
    rintro e w1 ⟨rfl, hb1⟩
    have HR1 := ghid ((GReply.new w).below hb1 (by simp))
    have HB1 := ghid (hb0.trans (hb1.mono (by simp)))
    clear hb1 hb0 CR
    go_wp2_with fail
    refine (in_yes c 1 9 _ h3.1 h3.2).mono ?_
    rintro e w9 ⟨rfl, hw⟩
    subst w9
    go_wp2_with fail
    refine (sessionsCopy_any _ ls w1 B (HV.out.below HB1.out hB) (by have := HB1.out.size; omega)).mono ?_
    rintro e w2 ⟨v2, rs, rfl, hrs, hown2, hb2⟩
    have HR2 := ghid (HR1.out.below hb2 HR1.out.lt)
    have HB2 := ghid (HB1.out.trans (hb2.mono HB1.out.size))
    have HRS := ghid hrs
    have HO2 := ghid hown2
    have hrd := hown2.reads (Nat.le_refl _)
    rw [hrs] at hrd
    have hz12 : w1.heap.size ≤ w2.heap.size := hb2.size
    clear hb2 hown2 hrs
    go_wp2_with fail
    refine (CP.out _ _ hrd).mono ?_
    rintro e w9 ⟨rfl, hw⟩
    subst w9
    obtain ⟨r0, r1, r2, rf⟩ := HR2.out.cells
    have hq : w.heap.size < w2.heap.size := HR2.out.lt
    have hq1 : w.heap.size < w1.heap.size := HR1.out.lt
    clear hrd CP
    obtain ⟨xv, hrn⟩ := map_at HRS.out HX.out
    have hrl : rs.length = ls.length := by rw [← HRS.out, List.length_map]
    obtain ⟨g, gc, hge, -, hgl, -⟩ := grow_some HO2.out.row (by omega)
    subst hge
    rw [hrl] at HO2 ⊢
    obtain ⟨d0, d1, d2, d3, d4⟩ := HO2.out.cells hrn
    have df := HO2.out.frozenAt
    have hq2 : w1.heap.size ≤ g := (HO2.out.row.lt g rfl).1
    have hq3 : w.heap.size ≠ g := by omega
    have hq4 : g ≠ w.heap.size := by omega
    simp only at d0 d1 d2 d3 d4
    have HN := ghid (HO2.out.setLast hrn (i + 1))
    have HM : Hid ((rs.set n (({ (⟨xc, xi, xa, xt, xk⟩ : SessD) with last := i + 1 }, xv) : SessD × Value)).map (·.1) = ls.set n ⟨xc, xi, xa, i + 1, xk⟩) := by
      unfold Hid
      rw [List.map_set, HRS.out]
    clear HO2 hrn hrl
    go_wp2_with fail
    go_region
    all_goals
      go_wp2
      refine bodyPost_ret (v := .tuple #[.slice (some ⟨g, 0, none⟩) ls.length gc, .agg #[.int .i64 7, .int .i64 xi, .string ⟨#[]⟩], .int .i64 0]) (by simp [results, Try.results18, go_sem, r0, r1, r2]) rfl ⟨_, rfl, ?_, ?_⟩
      · have t := HN.out.out3 hq1 (.int .i64 7) (.int .i64 xi) (.string ⟨#[]⟩)
        rw [HM.out] at t
        exact (t.below (Below.refl _ _).drew (Nat.le_refl _)).mono (by simp [World.setCell])
      · exact (gbelow3 (HB2.out.setCell (by show w.heap.size ≤ g; omega) _) (Nat.le_refl _) _ _ _).drew
  | false =>
    have CP := ghid (fun u w' hu => sessionAt_none u ls c w' w'.heap.size hu (fun j y hy => thereS_none HGD.out.order ht hy))
    by_cases hf : ls.length = 4
    · rw [joinS_full ht hf]
      simp only
      have hf2 : (4 : Int) ≤ ls.length := by omega
      clear ht hr h1 h2 hf
      go_enter Try.func18, Try.ntmps18
      go_wp2_with fail
      refine CR.mono ?_
      rintro e w1 ⟨rfl, hb1⟩
      have HR1 := ghid ((GReply.new w).below hb1 (by simp))
      have HB1 := ghid (hb0.trans (hb1.mono (by simp)))
      clear hb1 hb0 CR
      go_wp2_with fail
      refine (in_yes c 1 9 _ h3.1 h3.2).mono ?_
      rintro e w9 ⟨rfl, hw⟩
      subst w9
      go_wp2_with fail
      refine (sessionsCopy_any _ ls w1 B (HV.out.below HB1.out hB) (by have := HB1.out.size; omega)).mono ?_
      rintro e w2 ⟨v2, rs, rfl, hrs, hown2, hb2⟩
      have HR2 := ghid (HR1.out.below hb2 HR1.out.lt)
      have HB2 := ghid (HB1.out.trans (hb2.mono HB1.out.size))
      have HRS := ghid hrs
      have HO2 := ghid hown2
      have hrd := hown2.reads (Nat.le_refl _)
      rw [hrs] at hrd
      have hz12 : w1.heap.size ≤ w2.heap.size := hb2.size
      clear hb2 hown2 hrs
      go_wp2_with fail
      refine (CP.out _ _ hrd).mono ?_
      rintro e w9 ⟨rfl, hw⟩
      subst w9
      obtain ⟨r0, r1, r2, rf⟩ := HR2.out.cells
      have hq : w.heap.size < w2.heap.size := HR2.out.lt
      have hq1 : w.heap.size < w1.heap.size := HR1.out.lt
      clear hrd CP
      have hrl : rs.length = ls.length := by rw [← HRS.out, List.length_map]
      obtain ⟨g, gc, rfl⟩ := grow_shape HO2.out.row
      rw [hrl] at HO2 ⊢
      clear hrl
      go_wp2
      refine bodyPost_ret (v := .tuple #[.slice g ls.length gc, .agg #[.int .i64 8, .int .i64 0, .string ⟨#[]⟩], .int .i64 0]) (by simp [results, Try.results18, go_sem, r0, r1, r2]) rfl ⟨_, rfl, ?_, ?_⟩
      · have := HO2.out.out3 hq1 (.int .i64 8) (.int .i64 0) (.string ⟨#[]⟩)
        rw [HRS.out] at this
        exact this
      · exact gbelow3 HB2.out (Nat.le_refl _) _ _ _
    · rw [joinS_new ht hf]
      have HLOW : Hid (∀ (j : Nat) (y : SessD), j < placeS ls c → ls[j]? = some y → y.client < c) := fun j y hj hy => placeS_before hj hy
      have HHIGH : Hid (∀ (j : Nat) (y : SessD), placeS ls c ≤ j → ls[j]? = some y → c < y.client) := fun j y hj hy => placeS_above HGD.out.order ht hj hy
      obtain ⟨n, hne⟩ : ∃ n, n = placeS ls c := ⟨_, rfl⟩
      rw [← hne] at HLOW HHIGH hin ⊢
      simp only
      have hf2 : ¬ (4 : Int) ≤ ls.length := by omega
      have hl3 : ls.length ≤ 3 := by omega
      clear hne ht hr h1 h2 hf
      go_enter Try.func18, Try.ntmps18
      go_wp2_with fail
      refine CR.mono ?_
      rintro e w1 ⟨rfl, hb1⟩
      have HR1 := ghid ((GReply.new w).below hb1 (by simp))
      have HB1 := ghid (hb0.trans (hb1.mono (by simp)))
      clear hb1 hb0 CR
      go_wp2_with fail
      refine (in_yes c 1 9 _ h3.1 h3.2).mono ?_
      rintro e w9 ⟨rfl, hw⟩
      subst w9
      go_wp2_with fail
      refine (sessionsCopy_any _ ls w1 B (HV.out.below HB1.out hB) (by have := HB1.out.size; omega)).mono ?_
      rintro e w2 ⟨v2, rs, rfl, hrs, hown2, hb2⟩
      have HR2 := ghid (HR1.out.below hb2 HR1.out.lt)
      have HB2 := ghid (HB1.out.trans (hb2.mono HB1.out.size))
      have HRS := ghid hrs
      have HO2 := ghid hown2
      have hrd := hown2.reads (Nat.le_refl _)
      rw [hrs] at hrd
      have hz12 : w1.heap.size ≤ w2.heap.size := hb2.size
      clear hb2 hown2 hrs
      go_wp2_with fail
      refine (CP.out _ _ hrd).mono ?_
      rintro e w9 ⟨rfl, hw⟩
      subst w9
      obtain ⟨r0, r1, r2, rf⟩ := HR2.out.cells
      have hq : w.heap.size < w2.heap.size := HR2.out.lt
      have hq1 : w.heap.size < w1.heap.size := HR1.out.lt
      clear hrd CP
      have hrl : rs.length = ls.length := by rw [← HRS.out, List.length_map]
      obtain ⟨go, gc, rfl⟩ := grow_shape HO2.out.row
      obtain ⟨W4, hW4⟩ : ∃ W4, W4 = w2.alloc (.cells #[.int .i64 c, .int .i64 (i + 1), .int .i64 0, .int .i64 (i + 1), .slice none 0 0] 57) := ⟨_, rfl⟩
      have hb24 : Below w2.heap.size w2 W4 := by rw [hW4]; exact (Below.refl _ _).alloc (Nat.le_refl _) _
      have HG4 : Hid (W4.heap[w2.heap.size]? = some (.cells #[.int .i64 c, .int .i64 (i + 1), .int .i64 0, .int .i64 (i + 1), .slice none 0 0] 57 (0, 0))) := by unfold Hid; rw [hW4]; exact heap_alloc_new w2 _
      have hz4 : w2.heap.size < W4.heap.size := by rw [hW4]; simp
      have HO4 := ghid (HO2.out.below hb24 (Nat.le_refl _))
      have HR4 := ghid (HR2.out.below hb24 HR2.out.lt)
      have HB4 := ghid (HB2.out.trans (hb24.mono (by omega)))
      have HLS := ghid HRS.out
      rw [hrl] at HO4 ⊢
      have hrl3 : rs.length ≤ 3 := by omega
      clear r0 r1 r2 rf HO2 hb24
      go_wp2
      rw [← hW4]
      clear hW4
      go_loopw [13, 14, 15] (fun o dv kv wr => ∃ (k : Nat), k ≤ rs.length ∧ kv = .int .i64 k ∧ dv = .bool (decide (n < k)) ∧ wr.ownsRow W4.heap.size 57 5 o (outAt rs ((⟨c, i + 1, 0, i + 1, []⟩ : SessD), Value.slice none 0 0) n k).length (flatG sessCells (outAt rs ((⟨c, i + 1, 0, i + 1, []⟩ : SessD), Value.slice none 0 0) n k)) ∧ Below W4.heap.size W4 wr)
        (fun _ _ kv _ => rs.length - (intOf kv).toNat)
      case atStart => exact ⟨0, Nat.zero_le _, rfl, by simp, by simpa [outAt, flatG] using World.ownsRow_nil _ _ _ _, Below.refl _ _⟩
      case round =>
        obtain ⟨k, hk, rfl, rfl, hrow, hb⟩ := hrel
        have hsz := hb.size
        have HOR := ghid (HO4.out.below hb (Nat.le_refl _))
        have HR := ghid hrow
        have HB := ghid hb
        have hfl := outAt_len (r0 := ((⟨c, i + 1, 0, i + 1, []⟩ : SessD), Value.slice none 0 0)) (p := n) hk
        have hwr2 : w2.heap.size < wr.heap.size := by omega
        have gs := (hb.block w2.heap.size hz4).trans HG4.out
        have s0 := cell_of_row wr w2.heap.size 0 _ _ _ gs
        have s1 := cell_of_row wr w2.heap.size 1 _ _ _ gs
        have s2 := cell_of_row wr w2.heap.size 2 _ _ _ gs
        have s3 := cell_of_row wr w2.heap.size 3 _ _ _ gs
        have s4 := cell_of_row wr w2.heap.size 4 _ _ _ gs
        simp only [List.getElem?_toArray, List.getElem?_cons_zero, List.getElem?_cons_succ] at s0 s1 s2 s3 s4
        clear gs
        obtain ⟨oo, oc, rfl⟩ := grow_shape hrow
        obtain ⟨nf, hnf⟩ : ∃ nf, nf = (outAt rs ((⟨c, i + 1, 0, i + 1, []⟩ : SessD), Value.slice none 0 0) n k).length := ⟨_, rfl⟩
        rw [← hnf] at HR hfl ⊢
        have HNF := ghid hnf.symm
        by_cases hlt : k < rs.length
        · have hlt2 : k < ls.length := by omega
          obtain ⟨r, hrk⟩ : ∃ r, rs[k]? = some r := ⟨_, List.getElem?_eq_getElem hlt⟩
          obtain ⟨vg, vcap, hve, -, hvl, hvc⟩ := grow_some HOR.out.row (by omega)
          simp only [Value.slice.injEq] at hve
          obtain ⟨rfl, -, rfl⟩ := hve
          obtain ⟨c0, c1, c2, c3, c4⟩ := HOR.out.cells hrk
          have hlk : ls[k]? = some r.1 := by rw [← HRS.out, List.getElem?_map, hrk]; rfl
          have HRK := ghid hrk
          have hlow : k < n → r.1.client < c := fun h => HLOW.out k _ h hlk
          have hhigh : n ≤ k → c < r.1.client := fun h => HHIGH.out k _ h hlk
          obtain ⟨⟨xc, xi, xa, xt, xk⟩, xv⟩ := r
          simp only at c0 c1 c2 c3 c4 hlow hhigh
          obtain ⟨lo, lc, hxv⟩ := grow_shape (HO4.out.reps.each _ (List.mem_of_getElem? hrk)).row
          simp only at hxv
          subst hxv
          have hvg : vg < wr.heap.size := hvl
          have hkc : k ≤ gc := by omega
          clear hrow hb hrk hnf hlk
          rcases (by omega : k < n ∨ k = n ∨ n < k) with hkn | hkn | hkn
          · have e1 : decide (n < k) = false := by simp; omega
            have hcl : ¬ c < xc := by have := hlow hkn; omega
            have HN := ghid (outAt_low (r0 := ((⟨c, i + 1, 0, i + 1, []⟩ : SessD), Value.slice none 0 0)) hkn HRK.out)
            have e2 : decide (n < k + 1) = false := by simp; omega
            rw [e1]
            clear hlow hhigh
            obtain ⟨Wa, hWa⟩ : ∃ Wa, Wa = wr.alloc (.cells #[.int .i64 xc, .int .i64 xi, .int .i64 xa, .int .i64 xt, .slice lo xk.length lc] 57) := ⟨_, rfl⟩
            have HAa : Hid (Below wr.heap.size wr Wa) := by unfold Hid; rw [hWa]; exact (Below.refl _ _).alloc (Nat.le_refl _) _
            have HROWa : Hid (Wa.ownsRow W4.heap.size 57 5 (.slice oo nf oc) nf (flatG sessCells (outAt rs ((⟨c, i + 1, 0, i + 1, []⟩ : SessD), Value.slice none 0 0) n k))) := grow_below HR.out HAa.out (Nat.le_refl _)
            have HNEWa : Hid (∀ j u, (sessCells ((⟨xc, xi, xa, xt, xk⟩ : SessD), Value.slice lo xk.length lc))[j]? = some u → Wa.cell? ((⟨wr.heap.size, 0, none⟩ : Addr).add j) = some u) := by
              unfold Hid
              rw [hWa]
              exact World.news_of_block (heap_alloc_new wr _)
            have hza : W4.heap.size ≤ Wa.heap.size := Nat.le_trans hsz HAa.out.size
            have HWa := ghid hWa
            clear hWa
            go_wp2_with (at_builtin; refine wpList_append_lies _ rfl (.tmp 86) (.tmp 91) 30 rfl W4.heap.size 57 i0 _ 5 56 Try.underlying30 hi hz0 hz1 hz2 rfl (by decide) (.slice oo nf oc) nf (flatG sessCells (outAt rs ((⟨c, i + 1, 0, i + 1, []⟩ : SessD), Value.slice none 0 0) n k)) rfl (by rw [← HWa.out]; exact HROWa.out) ⟨wr.heap.size, 0, none⟩ 1 1 (sessCells ((⟨xc, xi, xa, xt, xk⟩ : SessD), Value.slice lo xk.length lc)) rfl rfl (by rw [← HWa.out]; exact HNEWa.out) (sessCells_one _ rfl) (by omega) (by unfold maxLen; omega) (by omega) (by rw [← HWa.out]; exact hza) _ rfl ?_)
            intro ga ca w5 howna hga hata hlta
            rw [← HWa.out] at hga
            have HRa : Hid (w5.ownsRow W4.heap.size 57 5 (.slice (some ⟨ga, 0, none⟩) (nf + 1) ca) (nf + 1) (flatG sessCells (outAt rs ((⟨c, i + 1, 0, i + 1, []⟩ : SessD), Value.slice none 0 0) n k ++ [((⟨xc, xi, xa, xt, xk⟩ : SessD), Value.slice lo xk.length lc)]))) := by
              unfold Hid
              rw [flatG_snoc]
              exact howna
            have hba := (HB.out.trans (HAa.out.mono hsz)).grown hga hza (fun c hc => (HR.out.lt c hc).1)
            have HBa := ghid hba
            have hsza := hba.size
            clear howna hga hata hlta hba HROWa HNEWa
            have HL : Hid ((outAt rs ((⟨c, i + 1, 0, i + 1, []⟩ : SessD), Value.slice none 0 0) n (k + 1)).length = nf + 1) := by unfold Hid; rw [HN.out, List.length_append, HNF.out]; rfl
            go_wp2
            go_roundw
            case rel => exact ⟨k + 1, by omega, by go_num, by rw [e2], by rw [HL.out, HN.out]; exact HRa.out, HBa.out⟩
            case measure => simp [intOf]; omega
          · subst hkn
            have e1 : decide (k < k) = false := by simp
            have hcl : c < xc := hhigh (Nat.le_refl _)
            have HN := ghid (outAt_at (r0 := ((⟨c, i + 1, 0, i + 1, []⟩ : SessD), Value.slice none 0 0)) HRK.out)
            have e2 : decide (k < k + 1) = true := by simp
            rw [e1]
            clear hlow hhigh
            obtain ⟨Wa, hWa⟩ : ∃ Wa, Wa = wr.alloc (.cells #[.int .i64 c, .int .i64 (i + 1), .int .i64 0, .int .i64 (i + 1), .slice none 0 0] 57) := ⟨_, rfl⟩
            have HAa : Hid (Below wr.heap.size wr Wa) := by unfold Hid; rw [hWa]; exact (Below.refl _ _).alloc (Nat.le_refl _) _
            have HROWa : Hid (Wa.ownsRow W4.heap.size 57 5 (.slice oo nf oc) nf (flatG sessCells (outAt rs ((⟨c, i + 1, 0, i + 1, []⟩ : SessD), Value.slice none 0 0) k k))) := grow_below HR.out HAa.out (Nat.le_refl _)
            have HNEWa : Hid (∀ j u, (sessCells ((⟨c, i + 1, 0, i + 1, []⟩ : SessD), Value.slice none 0 0))[j]? = some u → Wa.cell? ((⟨wr.heap.size, 0, none⟩ : Addr).add j) = some u) := by
              unfold Hid
              rw [hWa]
              exact World.news_of_block (heap_alloc_new wr _)
            have hza : W4.heap.size ≤ Wa.heap.size := Nat.le_trans hsz HAa.out.size
            have HWa := ghid hWa
            clear hWa
            go_wp2_with (at_builtin; refine wpList_append_lies _ rfl (.tmp 82) (.tmp 84) 30 rfl W4.heap.size 57 i0 _ 5 56 Try.underlying30 hi hz0 hz1 hz2 rfl (by decide) (.slice oo nf oc) nf (flatG sessCells (outAt rs ((⟨c, i + 1, 0, i + 1, []⟩ : SessD), Value.slice none 0 0) k k)) rfl (by rw [← HWa.out]; exact HROWa.out) ⟨wr.heap.size, 0, none⟩ 1 1 (sessCells ((⟨c, i + 1, 0, i + 1, []⟩ : SessD), Value.slice none 0 0)) rfl rfl (by rw [← HWa.out]; exact HNEWa.out) (sessCells_one _ rfl) (by omega) (by unfold maxLen; omega) (by omega) (by rw [← HWa.out]; exact hza) _ rfl ?_)
            intro ga ca w5 howna hga hata hlta
            rw [← HWa.out] at hga
            have HRa : Hid (w5.ownsRow W4.heap.size 57 5 (.slice (some ⟨ga, 0, none⟩) (nf + 1) ca) (nf + 1) (flatG sessCells (outAt rs ((⟨c, i + 1, 0, i + 1, []⟩ : SessD), Value.slice none 0 0) k k ++ [((⟨c, i + 1, 0, i + 1, []⟩ : SessD), Value.slice none 0 0)]))) := by
              unfold Hid
              rw [flatG_snoc]
              exact howna
            have hba := (HB.out.trans (HAa.out.mono hsz)).grown hga hza (fun c hc => (HR.out.lt c hc).1)
            have HBa := ghid hba
            have hsza := hba.size
            clear howna hga hata hlta hba HROWa HNEWa
            have ca : ∀ o, w5.cell? ⟨vg, o, none⟩ = wr.cell? ⟨vg, o, none⟩ := fun o => by
              have h1 := HBa.out.cell (p := ⟨vg, o, none⟩) (by show vg < W4.heap.size; exact (HO4.out.row.lt vg rfl).2)
              have h2 := HB.out.cell (p := ⟨vg, o, none⟩) (by show vg < W4.heap.size; exact (HO4.out.row.lt vg rfl).2)
              exact h1.trans h2.symm
            have f0 := (ca _).trans c0
            have f1 := (ca _).trans c1
            have f2 := (ca _).trans c2
            have f3 := (ca _).trans c3
            have f4 := (ca _).trans c4
            clear ca c0 c1 c2 c3 c4
            obtain ⟨Wb, hWb⟩ : ∃ Wb, Wb = w5.alloc (.cells #[.int .i64 xc, .int .i64 xi, .int .i64 xa, .int .i64 xt, .slice lo xk.length lc] 57) := ⟨_, rfl⟩
            have HAb : Hid (Below w5.heap.size w5 Wb) := by unfold Hid; rw [hWb]; exact (Below.refl _ _).alloc (Nat.le_refl _) _
            have HROWb : Hid (Wb.ownsRow W4.heap.size 57 5 (.slice (some ⟨ga, 0, none⟩) (nf + 1) ca) (nf + 1) (flatG sessCells (outAt rs ((⟨c, i + 1, 0, i + 1, []⟩ : SessD), Value.slice none 0 0) k k ++ [((⟨c, i + 1, 0, i + 1, []⟩ : SessD), Value.slice none 0 0)]))) := grow_below HRa.out HAb.out (Nat.le_refl _)
            have HNEWb : Hid (∀ j u, (sessCells ((⟨xc, xi, xa, xt, xk⟩ : SessD), Value.slice lo xk.length lc))[j]? = some u → Wb.cell? ((⟨w5.heap.size, 0, none⟩ : Addr).add j) = some u) := by
              unfold Hid
              rw [hWb]
              exact World.news_of_block (heap_alloc_new w5 _)
            have hzb : W4.heap.size ≤ Wb.heap.size := Nat.le_trans hsza HAb.out.size
            have HWb := ghid hWb
            clear hWb
            go_wp2_with (at_builtin; refine wpList_append_lies _ rfl (.tmp 86) (.tmp 91) 30 rfl W4.heap.size 57 i0 _ 5 56 Try.underlying30 hi hz0 hz1 hz2 rfl (by decide) (.slice (some ⟨ga, 0, none⟩) (nf + 1) ca) (nf + 1) (flatG sessCells (outAt rs ((⟨c, i + 1, 0, i + 1, []⟩ : SessD), Value.slice none 0 0) k k ++ [((⟨c, i + 1, 0, i + 1, []⟩ : SessD), Value.slice none 0 0)])) rfl (by rw [← HWb.out]; exact HROWb.out) ⟨w5.heap.size, 0, none⟩ 1 1 (sessCells ((⟨xc, xi, xa, xt, xk⟩ : SessD), Value.slice lo xk.length lc)) rfl rfl (by rw [← HWb.out]; exact HNEWb.out) (sessCells_one _ rfl) (by omega) (by unfold maxLen; omega) (by omega) (by rw [← HWb.out]; exact hzb) _ rfl ?_)
            intro gb cb w6 hownb hgb hatb hltb
            rw [← HWb.out] at hgb
            have HRb : Hid (w6.ownsRow W4.heap.size 57 5 (.slice (some ⟨gb, 0, none⟩) ((nf + 1) + 1) cb) ((nf + 1) + 1) (flatG sessCells (outAt rs ((⟨c, i + 1, 0, i + 1, []⟩ : SessD), Value.slice none 0 0) k k ++ [((⟨c, i + 1, 0, i + 1, []⟩ : SessD), Value.slice none 0 0)] ++ [((⟨xc, xi, xa, xt, xk⟩ : SessD), Value.slice lo xk.length lc)]))) := by
              unfold Hid
              rw [flatG_snoc]
              exact hownb
            have hbb := (HBa.out.trans (HAb.out.mono hsza)).grown hgb hzb (fun c hc => (HRa.out.lt c hc).1)
            have HBb := ghid hbb
            have hszb := hbb.size
            clear hownb hgb hatb hltb hbb HROWb HNEWb
            have HL : Hid ((outAt rs ((⟨c, i + 1, 0, i + 1, []⟩ : SessD), Value.slice none 0 0) k (k + 1)).length = nf + 1 + 1) := by unfold Hid; rw [HN.out, List.length_append, List.length_append, HNF.out]; rfl
            go_wp2
            go_roundw
            case rel => exact ⟨k + 1, by omega, by go_num, by rw [e2], by rw [HL.out, HN.out]; exact HRb.out, HBb.out⟩
            case measure => simp [intOf]; omega
          · have e1 : decide (n < k) = true := by simp; omega
            have HN := ghid (outAt_high (r0 := ((⟨c, i + 1, 0, i + 1, []⟩ : SessD), Value.slice none 0 0)) hkn HRK.out)
            have e2 : decide (n < k + 1) = true := by simp; omega
            rw [e1]
            clear hlow hhigh
            obtain ⟨Wa, hWa⟩ : ∃ Wa, Wa = wr.alloc (.cells #[.int .i64 xc, .int .i64 xi, .int .i64 xa, .int .i64 xt, .slice lo xk.length lc] 57) := ⟨_, rfl⟩
            have HAa : Hid (Below wr.heap.size wr Wa) := by unfold Hid; rw [hWa]; exact (Below.refl _ _).alloc (Nat.le_refl _) _
            have HROWa : Hid (Wa.ownsRow W4.heap.size 57 5 (.slice oo nf oc) nf (flatG sessCells (outAt rs ((⟨c, i + 1, 0, i + 1, []⟩ : SessD), Value.slice none 0 0) n k))) := grow_below HR.out HAa.out (Nat.le_refl _)
            have HNEWa : Hid (∀ j u, (sessCells ((⟨xc, xi, xa, xt, xk⟩ : SessD), Value.slice lo xk.length lc))[j]? = some u → Wa.cell? ((⟨wr.heap.size, 0, none⟩ : Addr).add j) = some u) := by
              unfold Hid
              rw [hWa]
              exact World.news_of_block (heap_alloc_new wr _)
            have hza : W4.heap.size ≤ Wa.heap.size := Nat.le_trans hsz HAa.out.size
            have HWa := ghid hWa
            clear hWa
            go_wp2_with (at_builtin; refine wpList_append_lies _ rfl (.tmp 86) (.tmp 91) 30 rfl W4.heap.size 57 i0 _ 5 56 Try.underlying30 hi hz0 hz1 hz2 rfl (by decide) (.slice oo nf oc) nf (flatG sessCells (outAt rs ((⟨c, i + 1, 0, i + 1, []⟩ : SessD), Value.slice none 0 0) n k)) rfl (by rw [← HWa.out]; exact HROWa.out) ⟨wr.heap.size, 0, none⟩ 1 1 (sessCells ((⟨xc, xi, xa, xt, xk⟩ : SessD), Value.slice lo xk.length lc)) rfl rfl (by rw [← HWa.out]; exact HNEWa.out) (sessCells_one _ rfl) (by omega) (by unfold maxLen; omega) (by omega) (by rw [← HWa.out]; exact hza) _ rfl ?_)
            intro ga ca w5 howna hga hata hlta
            rw [← HWa.out] at hga
            have HRa : Hid (w5.ownsRow W4.heap.size 57 5 (.slice (some ⟨ga, 0, none⟩) (nf + 1) ca) (nf + 1) (flatG sessCells (outAt rs ((⟨c, i + 1, 0, i + 1, []⟩ : SessD), Value.slice none 0 0) n k ++ [((⟨xc, xi, xa, xt, xk⟩ : SessD), Value.slice lo xk.length lc)]))) := by
              unfold Hid
              rw [flatG_snoc]
              exact howna
            have hba := (HB.out.trans (HAa.out.mono hsz)).grown hga hza (fun c hc => (HR.out.lt c hc).1)
            have HBa := ghid hba
            have hsza := hba.size
            clear howna hga hata hlta hba HROWa HNEWa
            have HL : Hid ((outAt rs ((⟨c, i + 1, 0, i + 1, []⟩ : SessD), Value.slice none 0 0) n (k + 1)).length = nf + 1) := by unfold Hid; rw [HN.out, List.length_append, HNF.out]; rfl
            go_wp2
            go_roundw
            case rel => exact ⟨k + 1, by omega, by go_num, by rw [e2], by rw [HL.out, HN.out]; exact HRa.out, HBa.out⟩
            case measure => simp [intOf]; omega
        · have hkl : k = rs.length := by omega
          have HM : Hid ((rs.take n ++ ((⟨c, i + 1, 0, i + 1, []⟩ : SessD), Value.slice none 0 0) :: rs.drop n).map (·.1) = ls.take n ++ ⟨c, i + 1, 0, i + 1, []⟩ :: ls.drop n) := by
            unfold Hid
            rw [List.map_append, List.map_cons, List.map_take, List.map_drop, HRS.out]
          have hfin : Hid (∀ (w' : World) (v' : Value), Below W4.heap.size W4 w' → w'.ownsRow W4.heap.size 57 5 v' (rs.take n ++ ((⟨c, i + 1, 0, i + 1, []⟩ : SessD), Value.slice none 0 0) :: rs.drop n).length (flatG sessCells (rs.take n ++ ((⟨c, i + 1, 0, i + 1, []⟩ : SessD), Value.slice none 0 0) :: rs.drop n)) → OwnS w' w1.heap.size v' (rs.take n ++ ((⟨c, i + 1, 0, i + 1, []⟩ : SessD), Value.slice none 0 0) :: rs.drop n)) := by
            intro w' v' hb' hrow'
            refine ⟨grow_mono hrow' (by omega), ?_, by simp [List.length_take, List.length_drop]; omega⟩
            refine Reps.mid (by rw [List.take_append_drop]; exact (HO4.out.below hb' (Nat.le_refl _)).reps) ?_ (fun b hb => by cases hb)
            exact OwnK.nil _ _
          subst hkl
          clear hb hrow hnf
          by_cases hnl : n < rs.length
          · have e1 : decide (n < rs.length) = true := by simpa using hnl
            rw [e1]
            have HN := ghid (outAt_done (r0 := ((⟨c, i + 1, 0, i + 1, []⟩ : SessD), Value.slice none 0 0)) hnl)
            have HF : Hid (OwnS wr w1.heap.size (.slice oo nf oc) (rs.take n ++ ((⟨c, i + 1, 0, i + 1, []⟩ : SessD), Value.slice none 0 0) :: rs.drop n)) := by
              have hr2 := HR.out
              rw [← HNF.out, HN.out] at hr2
              have := hfin.out wr _ HB.out hr2
              rw [← HN.out, HNF.out] at this
              rw [← HN.out]
              exact this
            have HRW := ghid (HR4.out.below HB.out (by have := HR4.out.lt; omega))
            obtain ⟨r0, r1, r2, rf⟩ := HRW.out.cells
            have hq : w.heap.size < wr.heap.size := HRW.out.lt
            clear e1
            go_wp2
            refine bodyPost_ret (v := .tuple #[.slice oo nf oc, .agg #[.int .i64 0, .int .i64 (i + 1), .string ⟨#[]⟩], .int .i64 0]) (by simp [results, Try.results18, go_sem, r0, r1, r2]) rfl ⟨_, rfl, ?_, ?_⟩
            · have t := HF.out.out3 hq1 (.int .i64 0) (.int .i64 (i + 1)) (.string ⟨#[]⟩)
              rw [HM.out] at t
              exact t
            · exact gbelow3 (HB4.out.trans (HB.out.mono (by omega))) (Nat.le_refl _) _ _ _
          · have hnl2 : n = rs.length := by omega
            subst hnl2
            have e1 : decide (rs.length < rs.length) = false := by simp
            rw [e1]
            have HN := ghid (outAt_last (rs := rs) (r0 := ((⟨c, i + 1, 0, i + 1, []⟩ : SessD), Value.slice none 0 0)))
            have HRL := ghid hrl
            have hge : ¬ (rs.length : Int) < (ls.length : Int) := by omega
            have hge2 : ¬ rs.length < ls.length := by omega
            clear hnl hrl
            obtain ⟨Wa, hWa⟩ : ∃ Wa, Wa = wr.alloc (.cells #[.int .i64 c, .int .i64 (i + 1), .int .i64 0, .int .i64 (i + 1), .slice none 0 0] 57) := ⟨_, rfl⟩
            have HAa : Hid (Below wr.heap.size wr Wa) := by unfold Hid; rw [hWa]; exact (Below.refl _ _).alloc (Nat.le_refl _) _
            have HROWa : Hid (Wa.ownsRow W4.heap.size 57 5 (.slice oo nf oc) nf (flatG sessCells (outAt rs ((⟨c, i + 1, 0, i + 1, []⟩ : SessD), Value.slice none 0 0) rs.length rs.length))) := grow_below HR.out HAa.out (Nat.le_refl _)
            have HNEWa : Hid (∀ j u, (sessCells ((⟨c, i + 1, 0, i + 1, []⟩ : SessD), Value.slice none 0 0))[j]? = some u → Wa.cell? ((⟨wr.heap.size, 0, none⟩ : Addr).add j) = some u) := by
              unfold Hid
              rw [hWa]
              exact World.news_of_block (heap_alloc_new wr _)
            have hza : W4.heap.size ≤ Wa.heap.size := Nat.le_trans hsz HAa.out.size
            have HWa := ghid hWa
            clear hWa
            go_wp2_with (at_builtin; refine wpList_append_lies _ rfl (.tmp 95) (.tmp 97) 30 rfl W4.heap.size 57 i0 _ 5 56 Try.underlying30 hi hz0 hz1 hz2 rfl (by decide) (.slice oo nf oc) nf (flatG sessCells (outAt rs ((⟨c, i + 1, 0, i + 1, []⟩ : SessD), Value.slice none 0 0) rs.length rs.length)) rfl (by rw [← HWa.out]; exact HROWa.out) ⟨wr.heap.size, 0, none⟩ 1 1 (sessCells ((⟨c, i + 1, 0, i + 1, []⟩ : SessD), Value.slice none 0 0)) rfl rfl (by rw [← HWa.out]; exact HNEWa.out) (sessCells_one _ rfl) (by omega) (by unfold maxLen; omega) (by omega) (by rw [← HWa.out]; exact hza) _ rfl ?_)
            intro ga ca w5 howna hga hata hlta
            rw [← HWa.out] at hga
            have HRa : Hid (w5.ownsRow W4.heap.size 57 5 (.slice (some ⟨ga, 0, none⟩) (nf + 1) ca) (nf + 1) (flatG sessCells (outAt rs ((⟨c, i + 1, 0, i + 1, []⟩ : SessD), Value.slice none 0 0) rs.length rs.length ++ [((⟨c, i + 1, 0, i + 1, []⟩ : SessD), Value.slice none 0 0)]))) := by
              unfold Hid
              rw [flatG_snoc]
              exact howna
            have hba := (HB.out.trans (HAa.out.mono hsz)).grown hga hza (fun c hc => (HR.out.lt c hc).1)
            have HBa := ghid hba
            have hsza := hba.size
            clear howna hga hata hlta hba HROWa HNEWa
            have HF : Hid (OwnS w5 w1.heap.size (.slice (some ⟨ga, 0, none⟩) (nf + 1) ca) (rs.take rs.length ++ ((⟨c, i + 1, 0, i + 1, []⟩ : SessD), Value.slice none 0 0) :: rs.drop rs.length)) := by
              have hl : (rs.take rs.length ++ ((⟨c, i + 1, 0, i + 1, []⟩ : SessD), Value.slice none 0 0) :: rs.drop rs.length).length = nf + 1 := by rw [← HN.out, List.length_append, HNF.out]; rfl
              have hr2 := HRa.out
              rw [HN.out] at hr2
              exact hfin.out w5 _ HBa.out (by rw [hl]; exact hr2)
            have HRW := ghid (HR4.out.below HBa.out (by have := HR4.out.lt; omega))
            obtain ⟨r0, r1, r2, rf⟩ := HRW.out.cells
            have hq : w.heap.size < w5.heap.size := HRW.out.lt
            clear e1
            go_wp2
            refine bodyPost_ret (v := .tuple #[.slice (some ⟨ga, 0, none⟩) (nf + 1) ca, .agg #[.int .i64 0, .int .i64 (i + 1), .string ⟨#[]⟩], .int .i64 0]) (by simp [results, Try.results18, go_sem, r0, r1, r2]) rfl ⟨_, rfl, ?_, ?_⟩
            · have t := HF.out.out3 hq1 (.int .i64 0) (.int .i64 (i + 1)) (.string ⟨#[]⟩)
              rw [HM.out] at t
              exact t
            · exact gbelow3 (HB4.out.trans (HBa.out.mono (by omega))) (Nat.le_refl _) _ _ _
end Go.Proofs.Ytmcdbdcabiccnae
