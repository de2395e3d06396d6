/- replica.tells, replica.Check; slices.Equal of texts; log.beginsWith; Small functions of package replica: recall, applied, toApply, beginsWith, mailOf; log.Copy: the same log, in memory of its own; replica.Copy: the same replica, in memory of its own; replica.Apply, at a replica that may be: the loop over what is to be applied; A replica that was compacted, began anew, was told a snapshot: plain mathematics; A replica whose applied entries are committed ones: what each call makes of it. Plain mathematics; What holds of the cluster after every act: replicas, the leader, what is committed. Plain mathematics; Every act keeps what holds of the cluster; what is committed stays. Plain mathematics; What the whole promises, in plain lists: TopSame, TopStays, TopCatch, TopCrash, ClustersGood. Plain mathematics; Who is told all, and applies it, is where the leader is; who crashes comes to where it was. Plain mathematics (joined by program) -/
import Derived.Deep.RegionWith
import Derived.Deep.RegionHeld3
import Derived.BigQuiet
import Derived.Laws.StructEq
import Derived.Test.YtijilhbdbeajjaaGreatDoorTT40
import Derived.Test.YtijilhbdbeajjaaGreatDoorTT01
import Derived.Test.YtijilhbdbeajjaaGreatDoorTT41
import Derived.Test.YtijilhbdbeajjaaGreatDoorTT02
import Derived.Test.YtijilhbdbeajjaaGreatDoorTT00
import Derived.Test.YtijilhbdbeajjaaGreatDoorTT39
namespace Go.Proofs.YtijilhbdbeajjaaGreatDoor

open Go.RowKit

theorem str_nil (s : ByteArray) : s.toList.isEmpty = decide (s = ⟨#[]⟩) := by
  by_cases h : s = ⟨#[]⟩
  · subst h
    rw [ByteArray.toList_eq]
    rfl
  · rw [decide_eq_false h]
    exact rs_str_ne fun e => h (by cases s with | mk d => congr 1; exact Array.eq_empty_of_size_eq_zero e)

set_option maxRecDepth 100000 in
set_option maxHeartbeats 1600000 in
theorem tells_any (s : ByteArray) (base : Int) (w : World) (hs : s.size ≤ 140737488351232) :
    Calls Tryz.prog 42 #[.string s, .int .i64 base] w fun e w' => e = .returned (.bool (tellsB s base)) ∧ Below w.heap.size w w' := by
  by_cases hb : base = 0
  · subst hb
    have HT : Hid (tellsB s 0 = decide (s = ⟨#[]⟩)) := if_pos rfl
    rw [HT.out]
    go_enter Tryz.func42, Tryz.ntmps42
    go_wp2
    go_ret
    exact ⟨by rw [str_nil]; rfl, Below.refl _ _⟩
  · have HT : Hid (tellsB s base = decide (snapE s = 0 ∧ (snapL s).index = base)) := if_neg hb
    rw [HT.out]
    have hbb : (base == 0) = false := by simpa using hb
    have CD := ghid (decode_s s w hs)
    obtain ⟨x, hx⟩ : ∃ x, x = snapL s := ⟨_, rfl⟩
    obtain ⟨c, hc⟩ : ∃ c, c = snapE s := ⟨_, rfl⟩
    rw [← hx, ← hc] at CD ⊢
    clear hb HT hx hc
    go_enter Tryz.func42, Tryz.ntmps42
    go_wp2_with fail
    refine CD.out.mono ?_
    rintro e w1 ⟨v1, rfl, hr1, hb1⟩
    obtain ⟨lo, ln, lc, po, pn, pc, so, sn, sc, rfl⟩ := hr1.shape
    have HB1 := ghid (hb1.alloc hb1.size (.cells #[.int .i64 x.index, .slice lo ln lc, .slice po pn pc, .slice so sn sc] 48))
    clear hr1 hb1 CD
    by_cases hc : c = 0
    · subst hc
      go_wp2
      go_ret
      exact ⟨by simp; rfl, HB1.out⟩
    · have hcb : (c == 0) = false := by simpa using hc
      go_wp2
      go_ret
      exact ⟨by simp [hc], HB1.out⟩

set_option maxRecDepth 100000 in
set_option maxHeartbeats 1600000 in
/-- Check, of a replica that may be. -/
theorem repCheck_ok (v : Value) (r : RepD) (w : World) (B : Nat) (hv : RepR w B v r) (hB : B ≤ w.heap.size) (hr : repE r = 0) :
    Calls Tryz.prog 17 #[v] w fun e w' => e = .returned (.int .i64 0) ∧ Below w.heap.size w w' := by
  obtain ⟨k1, k2, ⟨k3, k4⟩, k5⟩ := repE_zero hr
  obtain ⟨⟨l1, l2, l3⟩, -⟩ := logE_zero k1
  obtain ⟨eo, lo, po, so, ec, ln, lc, pn, pc, sn, sc, rfl, hl, hs, hst⟩ := hv.parts
  have hb0 : Below w.heap.size w (w.alloc (.cells #[.int .i64 r.log.base, .slice eo r.log.ents.length ec, .string r.snap, .int .i64 r.state.index, .slice lo ln lc, .slice po pn pc, .slice so sn sc] 50)) := (Below.refl _ _).alloc (Nat.le_refl _) _
  have hx0 := heap_alloc_new w (.cells #[.int .i64 r.log.base, .slice eo r.log.ents.length ec, .string r.snap, .int .i64 r.state.index, .slice lo ln lc, .slice po pn pc, .slice so sn sc] 50)
  have CL := ghid (logCheck_any _ r.log _ B (hl.below hb0 hB) (by have := hb0.size; omega))
  have CM := ghid (fun u (hu : Below w.heap.size w u) => machCheck_any _ r.state u B (hst.below hu hB) (by have := hu.size; omega))
  have CA := ghid (fun u => last_raw r.log.base eo r.log.ents.length ec u ⟨l1, l2, l3⟩)
  have CT := ghid (fun u => tells_any r.snap r.log.base u hs)
  unfold lastL at k4
  rw [k1] at CL
  rw [k2] at CM
  rw [k5] at CT
  obtain ⟨⟨base, ts⟩, sp, ⟨ix, ks, ps, ss⟩⟩ := r
  simp only at CL CM CA CT hb0 hx0 k3 k4 ⊢
  obtain ⟨n, hn⟩ : ∃ n, n = ts.length := ⟨_, rfl⟩
  rw [← hn] at CL CA hb0 hx0 k4 ⊢
  have HB0 := ghid hb0
  have HX0 := ghid hx0
  have hd2 : decide (ix < base) = false := decide_eq_false (by omega)
  have hd3 : decide (base + (n : Int) < ix) = false := decide_eq_false (by omega)
  clear hl hs hst hb0 hx0 hv hr k1 k2 k5 hn l3
  go_enter Tryz.func17, Tryz.ntmps17
  go_wp2_with fail
  refine CL.out.mono ?_
  rintro e w1 ⟨rfl, hb1⟩
  have HB1 := ghid (HB0.out.trans (hb1.mono HB0.out.size))
  have HX1 := ghid (behind HX0.out (Below.refl _ _) hb1)
  obtain ⟨c0, c1, c2, c3, c4, c5, c6, cf, hpl⟩ := seven_cells HX1.out
  clear hb1 CL
  go_wp2_with fail
  refine (CM.out _ HB1.out).mono ?_
  rintro e w2 ⟨rfl, hb2⟩
  have HB2 := ghid (HB1.out.trans (hb2.mono HB1.out.size))
  have HX2 := ghid (behind HX1.out (Below.refl _ _) hb2)
  clear hb2 CM c0 c1 c2 c3 c4 c5 c6 cf hpl
  obtain ⟨c0, c1, c2, c3, c4, c5, c6, cf, hpl⟩ := seven_cells HX2.out
  go_wp2
  go_region_held3 (fun w' => w'.cell? ⟨w.heap.size, 0, none⟩ = some (.int .i64 base) ∧ w'.cell? ⟨w.heap.size, 1, none⟩ = some (.slice eo n ec) ∧ w'.cell? ⟨w.heap.size, 2, none⟩ = some (.string sp) ∧ w'.cell? ⟨w.heap.size, 3, none⟩ = some (.int .i64 ix)) (go_keep)
    (first
      | (go_at_call 33; refine (CA.out _).mono ?_; rintro e w3 ⟨rfl, hb3⟩; have HB3 := ghid (HB2.out.trans (((Below.refl _ _).drew.trans (hb3.mono (by simp))).mono HB2.out.size)); have HX3 := ghid (behind HX2.out ((Below.refl _ _).drew) hb3); obtain ⟨c0, c1, c2, c3, c4, c5, c6, cf, hpl⟩ := seven_cells HX3.out)
      | (go_at_call 42; refine (CT.out _).mono ?_; rintro e w4 ⟨rfl, hb4⟩; have HB4 := ghid (HB3.out.trans (hb4.mono HB3.out.size)); obtain ⟨c0, c1, c2, c3, c4, c5, c6, cf, hpl⟩ := seven_cells (behind HX3.out (Below.refl _ _) hb4)))
  go_wp2
  go_ret
  exact ⟨rfl, HB4.out⟩

end Go.Proofs.YtijilhbdbeajjaaGreatDoor

namespace Go.Proofs.YtijilhbdbeajjaaGreatDoor

open Go.RowKit

set_option maxRecDepth 100000 in
set_option maxHeartbeats 1600000 in
theorem equalTexts_any (v u : Value) (ps qs : List ByteArray) (w : World) (B B' : Nat) (hv : TextsR w B v ps) (hu : TextsR w B' u qs) :
    Calls Tryz.prog 20 #[v, u] w fun e w' => e = .returned (.bool (decide (ps = qs))) ∧ ∃ n, w' = w.drewN n := by
  obtain ⟨ao, cap, rfl, h1, h2, h3, h4⟩ := hv
  obtain ⟨au, cau, rfl, g1, g2, g3, g4⟩ := hu
  by_cases hl : ps.length = qs.length
  · have HL := ghid hl
    obtain ⟨n, hn⟩ : ∃ n, n = ps.length := ⟨_, rfl⟩
    have HN := ghid hn
    rw [← hn] at hl
    rw [← hl] at g1 g2 g4 ⊢
    rw [← hn] at h1 h2 h4 ⊢
    have HQ : Hid (qs.length = n) := hl.symm
    clear hl hn
    go_enter Tryz.func20, Tryz.ntmps20
    go_wp2
    go_loopw [13] (fun i wr => ∃ k m : Nat, k ≤ n ∧ i = .int .i64 k ∧ ps.take k = qs.take k ∧ wr = w.drewN m) (fun i _ => n - (intOf i).toNat)
    case atStart => exact ⟨0, 0, Nat.zero_le _, rfl, by simp, rfl⟩
    case round =>
      obtain ⟨k, m, hk, rfl, htk, rfl⟩ := hrel
      have HT := ghid htk
      clear htk
      by_cases hlt : k < n
      · obtain ⟨b, off, rfl, hb, hc⟩ := h4 (by omega)
        obtain ⟨b', off', rfl, hb', hc'⟩ := g4 (by omega)
        obtain ⟨x, hx⟩ : ∃ x, ps[k]? = some x := ⟨_, List.getElem?_eq_getElem (by have := HN.out; omega)⟩
        obtain ⟨y, hy⟩ : ∃ y, qs[k]? = some y := ⟨_, List.getElem?_eq_getElem (by have := HQ.out; omega)⟩
        obtain ⟨c0, -⟩ := hc k x hx
        obtain ⟨d0, -⟩ := hc' k y hy
        have HX := ghid hx
        have HY := ghid hy
        clear hx hy hc h4 hc' g4
        by_cases hxy : x = y
        · subst hxy
          have HT2 : Hid (ps.take (k + 1) = qs.take (k + 1)) := by
            unfold Hid
            rw [List.take_add_one, List.take_add_one, HX.out, HY.out, HT.out]
          go_wp2
          go_quiet (fail)
          go_wp2
          go_roundw
          case rel => exact ⟨k + 1, _, by omega, by go_num, HT2.out, rfl⟩
          case measure => simp [intOf]; omega
        · have hne : (x.toList == y.toList) = false := by
            rw [beq_eq_false_iff_ne]
            intro e
            rw [ByteArray.toList_eq, ByteArray.toList_eq] at e
            exact hxy (ByteArray.ext (Array.toList_inj.1 e))
          have HD : Hid (decide (ps = qs) = false) := by
            unfold Hid
            rw [decide_eq_false_iff_not]
            intro e
            rw [e, HY.out] at HX
            have := HX.out
            simp only [Option.some.injEq] at this
            exact hxy this.symm
          clear hxy
          go_wp2
          go_quiet (fail)
          go_wp2
          go_ret
          exact ⟨by rw [HD.out]; rfl, m + nq, by rw [World.drewN_drewN]⟩
      · have HD : Hid (decide (ps = qs) = true) := by
          unfold Hid
          rw [decide_eq_true_iff]
          have h := HT.out
          rwa [List.take_of_length_le (by have := HN.out; omega), List.take_of_length_le (by have := HQ.out; omega)] at h
        go_wp2
        go_ret
        exact ⟨by rw [HD.out]; rfl, m, rfl⟩
  · have HD : Hid (decide (ps = qs) = false) := by
      unfold Hid
      rw [decide_eq_false_iff_not]
      intro e
      exact hl (congrArg List.length e)
    have hli : ¬ ((ps.length : Int) = (qs.length : Int)) := by omega
    have hlb : ((ps.length : Int) != (qs.length : Int)) = true := bne_iff_ne.2 hli
    clear hl
    go_enter Tryz.func20, Tryz.ntmps20
    go_wp2
    go_ret
    exact ⟨by rw [HD.out]; rfl, 0, rfl⟩

set_option maxRecDepth 100000 in
set_option maxHeartbeats 1600000 in
theorem beginsWith_any (v u : Value) (ts front : List ByteArray) (w : World) (B B' : Nat) (hv : TextsR w B v ts) (hu : TextsR w B' u front) :
    Calls Tryz.prog 257 #[v, u] w fun e w' => e = .returned (.bool (opens front ts)) ∧ ∃ n, w' = w.drewN n := by
  obtain ⟨ao, cap, rfl⟩ := hv.slice
  obtain ⟨au, cau, rfl⟩ := hu.slice
  have hlen := hv.len
  have hlen2 := hu.len
  have hcap := hv.cap
  have hcap2 := hu.cap
  by_cases hl : front.length ≤ ts.length
  · have HO : Hid (opens front ts = decide (ts.take front.length = front)) := by
      unfold Hid opens
      exact decide_eq_decide.2 ⟨Eq.symm, Eq.symm⟩
    have CE := ghid (fun w (h1 : TextsR w B (.slice ao front.length cap) (ts.take front.length)) (h2 : TextsR w B' (.slice au front.length cau) front) => equalTexts_any _ _ _ _ w B B' h1 h2)
    have HV := ghid (hv.front hl)
    have HU := ghid hu
    clear hv hu
    go_enter Tryz.func257, Tryz.ntmps257
    go_wp2_with fail
    refine (CE.out _ HV.out HU.out).mono ?_
    rintro e w1 ⟨rfl, n, rfl⟩
    go_wp2
    go_ret
    exact ⟨by rw [HO.out]; rfl, n, rfl⟩
  · have HO : Hid (opens front ts = false) := by
      unfold Hid opens
      rw [decide_eq_false_iff_not]
      intro e
      have := congrArg List.length e
      rw [List.length_take] at this
      omega
    clear hv hu
    go_enter Tryz.func257, Tryz.ntmps257
    go_wp2
    go_ret
    exact ⟨by rw [HO.out]; rfl, 0, rfl⟩

theorem beginsWith_below (v u : Value) (ts front : List ByteArray) (w : World) (B B' : Nat) (hv : TextsR w B v ts) (hu : TextsR w B' u front) :
    Calls Tryz.prog 257 #[v, u] w fun e w' => e = .returned (.bool (opens front ts)) ∧ Below w.heap.size w w' :=
  (beginsWith_any v u ts front w B B' hv hu).mono fun _ _ ⟨h, n, hw⟩ => ⟨h, by subst hw; exact g_drewN_below _ _ _⟩

end Go.Proofs.YtijilhbdbeajjaaGreatDoor

namespace Go.Proofs.YtijilhbdbeajjaaGreatDoor

open Go.RowKit

theorem touchS4 {w : World} (p : Nat) (a0 a1 a2 a3 : Value) : TouchG w ((((w.setCell ⟨p, 0, none⟩ a0).setCell ⟨p, 1, none⟩ a1).setCell ⟨p, 2, none⟩ a2).setCell ⟨p, 3, none⟩ a3) (fun b => b = p) :=
  ((((TouchG.refl w (fun b => b = p)).setCell (a := ⟨p, 0, none⟩) (Or.inl rfl) a0).setCell (a := ⟨p, 1, none⟩) (Or.inl rfl) a1).setCell (a := ⟨p, 2, none⟩) (Or.inl rfl) a2).setCell (a := ⟨p, 3, none⟩) (Or.inl rfl) a3

set_option maxRecDepth 100000 in
set_option maxHeartbeats 1600000 in
theorem recall_any (s : ByteArray) (w : World) (hs : s.size ≤ 140737488351232) :
    Calls Tryz.prog 205 #[.string s] w fun e w' => ∃ v', e = .returned (.tuple #[v', .int .i64 (recallE s)]) ∧ NewR w.heap.size w' (fun u => StateR u u.heap.size v' (recallL s)) ∧ Below w.heap.size w w' := by
  have hb0 : Below w.heap.size w (w.alloc (.cells #[.int .i64 0, .slice none 0 0, .slice none 0 0, .slice none 0 0] 48)) := (Below.refl _ _).alloc (Nat.le_refl _) _
  have hx0 := heap_alloc_new w (.cells #[.int .i64 0, .slice none 0 0, .slice none 0 0, .slice none 0 0] 48)
  have HB0 := ghid hb0
  have HX0 := ghid hx0
  by_cases hb : s = ⟨#[]⟩
  · subst hb
    have HT : Hid (recallE ⟨#[]⟩ = 0) := if_pos rfl
    have HL : Hid (recallL ⟨#[]⟩ = .zero) := if_pos rfl
    rw [HT.out, HL.out]
    obtain ⟨c0, c1, c2, c3, cf, -⟩ := state_cells hx0
    clear hb0 hx0
    go_enter Tryz.func205, Tryz.ntmps205
    go_wp2
    refine bodyPost_ret (v := .tuple #[.agg #[.int .i64 0, .slice none 0 0, .slice none 0 0, .slice none 0 0], .int .i64 0]) (by simp [results, Tryz.results205, go_sem, c0, c1, c2, c3]) rfl ?_
    exact ⟨_, rfl, NewR.of _ _ fun _ => state_nil _ _, HB0.out⟩
  · have HT : Hid (recallE s = snapE s) := if_neg hb
    have HL : Hid (recallL s = snapL s) := if_neg hb
    rw [HT.out, HL.out]
    obtain ⟨x, hx⟩ : ∃ x, x = snapL s := ⟨_, rfl⟩
    obtain ⟨c, hc⟩ : ∃ c, c = snapE s := ⟨_, rfl⟩
    have hsb : s.toList.isEmpty = false := by rw [str_nil, decide_eq_false hb]
    have CD := ghid (decode_new s (w.alloc (.cells #[.int .i64 0, .slice none 0 0, .slice none 0 0, .slice none 0 0] 48)) hs)
    rw [← hx, ← hc] at CD ⊢
    clear hb hb0 hx0 HT HL hx hc
    go_enter Tryz.func205, Tryz.ntmps205
    go_wp2_with fail
    refine CD.out.mono ?_
    rintro e w1 ⟨v1, rfl, hr1, hb1⟩
    obtain ⟨lo, ln, lc, po, pn, pc, so, sn, sc, rfl⟩ := hr1.now.shape
    have hx1 := behind HX0.out (Below.refl _ _) hb1
    obtain ⟨c0, c1, c2, c3, cf, -⟩ := state_cells hx1
    have HB1 := ghid (HB0.out.trans (hb1.mono HB0.out.size))
    have HR1 := ghid ((hr1.touch (touchS4 w.heap.size (.int .i64 x.index) (.slice lo ln lc) (.slice po pn pc) (.slice so sn sc)) (fun k _ e => by rw [e]; simp)).mono (Nat.le_of_lt (show w.heap.size < (w.alloc _).heap.size by simp)))
    clear hr1 hb1 CD hx1
    go_wp2
    refine bodyPost_ret (v := .tuple #[.agg #[.int .i64 x.index, .slice lo ln lc, .slice po pn pc, .slice so sn sc], .int .i64 c]) (by simp [results, Tryz.results205, go_sem, c0, c1, c2, c3]) rfl ?_
    exact ⟨_, rfl, HR1.out, zbelow4 HB1.out (Nat.le_refl _) _ _ _ _⟩

set_option maxRecDepth 100000 in
set_option maxHeartbeats 1600000 in
theorem applied_rep (base ix : Int) (eo lo po so : Option Addr) (n ec ln lc pn pc sn sc : Nat) (s : ByteArray) (w : World) (h0 : 0 ≤ base ∧ base ≤ ix ∧ ix ≤ base + n ∧ base ≤ 1073741424 ∧ n ≤ 400 ∧ n ≤ ec) (k : Nat) (hk : ix - base = k) :
    Calls Tryz.prog 234 #[.agg #[.int .i64 base, .slice eo n ec, .string s, .int .i64 ix, .slice lo ln lc, .slice po pn pc, .slice so sn sc]] w fun e w' => e = .returned (.slice eo k ec) ∧ Below w.heap.size w w' := by
  obtain ⟨h1, h2, h3, h4, h5, h6⟩ := h0
  have HB0 : Hid (Below w.heap.size w (w.alloc (.cells #[.int .i64 base, .slice eo n ec, .string s, .int .i64 ix, .slice lo ln lc, .slice po pn pc, .slice so sn sc] 50))) := (Below.refl _ _).alloc (Nat.le_refl _) _
  have hkt : (ix - base).toNat = k := by omega
  have hkc : (k : Int) ≤ (ec : Int) := by omega
  go_enter Tryz.func234, Tryz.ntmps234
  go_wp2
  go_ret
  exact ⟨rfl, HB0.out⟩

set_option maxRecDepth 100000 in
set_option maxHeartbeats 1600000 in
theorem repBegins_any (v u : Value) (ts front : List ByteArray) (w : World) (B B' : Nat) (hv : TextsR w B v ts) (hu : TextsR w B' u front) :
    Calls Tryz.prog 233 #[v, u] w fun e w' => e = .returned (.bool (opens front ts)) ∧ ∃ n, w' = w.drewN n := by
  obtain ⟨ao, cap, rfl⟩ := hv.slice
  obtain ⟨au, cau, rfl⟩ := hu.slice
  have hlen := hv.len
  have hlen2 := hu.len
  have hcap := hv.cap
  have hcap2 := hu.cap
  by_cases hl : front.length ≤ ts.length
  · have HO : Hid (opens front ts = decide (ts.take front.length = front)) := by
      unfold Hid opens
      exact decide_eq_decide.2 ⟨Eq.symm, Eq.symm⟩
    have CE := ghid (fun w (h1 : TextsR w B (.slice ao front.length cap) (ts.take front.length)) (h2 : TextsR w B' (.slice au front.length cau) front) => equalTexts_any _ _ _ _ w B B' h1 h2)
    have HV := ghid (hv.front hl)
    have HU := ghid hu
    clear hv hu
    go_enter Tryz.func233, Tryz.ntmps233
    go_wp2_with fail
    refine (CE.out _ HV.out HU.out).mono ?_
    rintro e w1 ⟨rfl, n, rfl⟩
    go_wp2
    go_ret
    exact ⟨by rw [HO.out]; rfl, n, rfl⟩
  · have HO : Hid (opens front ts = false) := by
      unfold Hid opens
      rw [decide_eq_false_iff_not]
      intro e
      have := congrArg List.length e
      rw [List.length_take] at this
      omega
    clear hv hu
    go_enter Tryz.func233, Tryz.ntmps233
    go_wp2
    go_ret
    exact ⟨by rw [HO.out]; rfl, 0, rfl⟩

theorem repBegins_below (v u : Value) (ts front : List ByteArray) (w : World) (B B' : Nat) (hv : TextsR w B v ts) (hu : TextsR w B' u front) :
    Calls Tryz.prog 233 #[v, u] w fun e w' => e = .returned (.bool (opens front ts)) ∧ Below w.heap.size w w' :=
  (repBegins_any v u ts front w B B' hv hu).mono fun _ _ ⟨h, n, hw⟩ => ⟨h, by subst hw; exact g_drewN_below _ _ _⟩

set_option maxRecDepth 100000 in
set_option maxHeartbeats 3200000 in
theorem toApply_any (v : Value) (r : RepD) (upto : Int) (w : World) (B : Nat) (hv : RepR w B v r) (hB : B ≤ w.heap.size) (hr : repE r = 0) :
    Calls Tryz.prog 202 #[v, .int .i64 upto] w fun e w' => ∃ vo vc, e = .returned (.slice vo (todoL r upto).length vc) ∧ TextsR w' B (.slice vo (todoL r upto).length vc) (todoL r upto) ∧ Below w.heap.size w w' := by
  obtain ⟨h1, -, ⟨h3, h4⟩, -⟩ := repE_zero hr
  obtain ⟨⟨hb0, hb1, hln⟩, -⟩ := logE_zero h1
  have hlen := todo_len hr upto
  have HD : Hid (todoL r upto = (r.log.ents.drop (r.state.index - r.log.base).toNat).take (min (max upto r.state.index) (lastL r.log) - r.state.index).toNat) := rfl
  obtain ⟨d, hd⟩ : ∃ d, d = (todoL r upto).length := ⟨_, rfl⟩
  rw [← hd] at hlen ⊢
  have HDN := ghid hd
  obtain ⟨td, htd⟩ : ∃ td, td = todoL r upto := ⟨_, rfl⟩
  rw [← htd] at HD HDN ⊢
  obtain ⟨eo, lo, po, so, ec, ln, lc, pn, pc, sn, sc, rfl, ht, -⟩ := hv
  obtain ⟨⟨base, ts⟩, sp, ⟨ix, ks, ps, ss⟩⟩ := r
  unfold lastL at hlen h4 HD
  simp only at ht hb0 hb1 hln h3 h4 hlen HD ⊢
  obtain ⟨n, hn⟩ : ∃ n, n = ts.length := ⟨_, rfl⟩
  have hec := ht.cap
  rw [← hn] at hlen h4 HD hec hln ⊢
  obtain ⟨k, hk⟩ : ∃ k : Nat, ix - base = k := ⟨(ix - base).toNat, by omega⟩
  obtain ⟨q, hq⟩ : ∃ q, min (max upto ix) (base + (n : Int)) = q := ⟨_, rfl⟩
  rw [hq] at hlen HD
  rw [show (ix - base).toNat = k by omega, show (q - ix).toNat = d by omega] at HD
  have hkn : k + d ≤ n := by omega
  have hk2 : q - base = ((k + d : Nat) : Int) := by omega
  have HT := ghid ht
  have HN := ghid hn
  have CA := ghid (fun u => last_raw base eo n ec u ⟨hb0, hb1, hln⟩)
  have hb00 : Below w.heap.size w (w.alloc (.cells #[.int .i64 base, .slice eo n ec, .string sp, .int .i64 ix, .slice lo ln lc, .slice po pn pc, .slice so sn sc] 50)) := (Below.refl _ _).alloc (Nat.le_refl _) _
  have HX0 := ghid (heap_alloc_new w (.cells #[.int .i64 base, .slice eo n ec, .string sp, .int .i64 ix, .slice lo ln lc, .slice po pn pc, .slice so sn sc] 50))
  have HB0 := ghid hb00
  have hdi : (k : Int) ≤ ((k + d : Nat) : Int) := by omega
  have HKN := ghid hkn
  have hde : ((k + d : Nat) : Int) ≤ (ec : Int) := by omega
  clear ht hn hlen hb00 hd htd h1 hr hkn
  go_enter Tryz.func202, Tryz.ntmps202
  go_wp2_with fail
  go_region_held3 (fun w' => w'.cell? ⟨w.heap.size, 0, none⟩ = some (.int .i64 base) ∧ w'.cell? ⟨w.heap.size, 1, none⟩ = some (.slice eo n ec) ∧ w'.cell? ⟨w.heap.size, 3, none⟩ = some (.int .i64 ix)) (go_keep)
    (first
      | (go_at_call 33; refine (CA.out _).mono ?_; rintro e w1 ⟨rfl, hb1⟩; have hb2 := HB0.out.trans (((Below.refl _ _).drew.trans (hb1.mono (by simp))).mono HB0.out.size); have hx1 := behind HX0.out ((Below.refl _ _).drew) hb1; obtain ⟨c0, c1, c2, c3, c4, c5, c6, cf, hpl⟩ := seven_cells hx1))
  all_goals
    have htl := (HT.out.below hb2 hB).tail (k := k) (by rw [← HN.out]; omega)
    rw [← HN.out] at htl
    have HTL := ghid htl
    clear hb1 hx1 htl CA
    go_wp2
  all_goals
    go_ret
    have hlk : d ≤ (ts.drop k).length := by rw [List.length_drop, ← HN.out]; have := HKN.out; omega
    exact ⟨_, _, rfl, by
      rw [HD.out]
      first
        | exact TextsR.front (HTL.out.1 (by assumption)) hlk
        | exact TextsR.front (HTL.out.2 (by assumption)) hlk, hb2⟩

set_option maxRecDepth 100000 in
set_option maxHeartbeats 1600000 in
theorem mailOf_any (t : ByteArray) (c n : Int) (x : ByteArray) (w : World) (ht : t.size ≤ 140737488351232) :
    Calls Tryz.prog 203 #[.string t, .agg #[.int .i64 c, .int .i64 n, .string x]] w fun e w' => e = .returned (.agg #[.int .i64 (decL t).client, .int .i64 (decL t).seq, .int .i64 c, .int .i64 n, .string x]) ∧ Below w.heap.size w w' := by
  have HB0 : Hid (Below w.heap.size w ((w.alloc (.cells #[.int .i64 c, .int .i64 n, .string x] 73)).alloc (.cells #[.int .i64 0, .int .i64 0, .int .i64 0, .int .i64 0, .string ⟨#[]⟩] 92))) := ((Below.refl _ _).alloc (Nat.le_refl _) _).alloc (by simp) _
  have CD := ghid (fun u => decode_any t u ht)
  obtain ⟨y, hy⟩ : ∃ y, y = decL t := ⟨_, rfl⟩
  rw [← hy] at CD ⊢
  obtain ⟨xk, xc, xs, xq, xu, xo, xa, xb, xn⟩ := y
  simp only [cmdV] at CD ⊢
  obtain ⟨d, hd⟩ : ∃ d, d = decE t := ⟨_, rfl⟩
  rw [← hd] at CD
  clear hy hd
  go_enter Tryz.func203, Tryz.ntmps203
  go_wp2_with fail
  refine (CD.out _).mono ?_
  rintro e w1 ⟨rfl, hb1⟩
  obtain ⟨hx, hr, hbw⟩ := boxes7 (by simpa using hb1)
  obtain ⟨c0, c1, c2, cf, hpl⟩ := reply_cells hx
  obtain ⟨r0, r1, r2, r3, r4, rf, hrl⟩ := five_cells hr
  have HB1 := ghid hbw
  have hs := set5 hr (.int .i64 xc) (.int .i64 xq) (.int .i64 c) (.int .i64 n) (.string x)
  have hba := (zset5 hbw (Nat.le_succ _ : w.heap.size ≤ w.heap.size + 1) (.int .i64 xc) (.int .i64 xq) (.int .i64 c) (.int .i64 n) (.string x)).alloc (by have := hbw.size; simpa using this) (.cells #[.int .i64 xk, .int .i64 xc, .int .i64 xs, .int .i64 xq, .int .i64 xu, .int .i64 xo, .string xa, .string xb, .int .i64 xn] 67)
  have hsa := behind hs (Below.refl _ _) ((Below.refl _ _).alloc (Nat.le_refl _) (.cells #[.int .i64 xk, .int .i64 xc, .int .i64 xs, .int .i64 xq, .int .i64 xu, .int .i64 xo, .string xa, .string xb, .int .i64 xn] 67))
  obtain ⟨q0, q1, q2, q3, q4, qf, ql⟩ := five_cells hsa
  have HBA := ghid hba
  clear hb1 hx hr hbw CD hs hba hsa
  go_wp2
  refine bodyPost_ret (v := .agg #[.int .i64 xc, .int .i64 xq, .int .i64 c, .int .i64 n, .string x]) (by simp [results, Tryz.results203, go_sem, q0, q1, q2, q3, q4]) rfl ?_
  exact ⟨rfl, HBA.out⟩

end Go.Proofs.YtijilhbdbeajjaaGreatDoor

namespace Go.Proofs.YtijilhbdbeajjaaGreatDoor

open Go.RowKit

set_option maxRecDepth 100000 in
set_option maxHeartbeats 1600000 in
theorem logCopy_own (v : Value) (l : LogD) (w : World) (B : Nat) (hv : LogR w B v l) (hB : B ≤ w.heap.size) :
    Calls Tryz.prog 206 #[v] w fun e w' => ∃ vo vc, e = .returned (.agg #[.int .i64 l.base, .slice vo l.ents.length vc]) ∧ w'.ownsRow (w.heap.size + 1) 9 1 (.slice vo l.ents.length vc) l.ents.length (textCells l.ents) ∧ Below w.heap.size w w' := by
  obtain ⟨eo, ec, rfl, ht⟩ := hv.shape
  obtain ⟨base, ts⟩ := l
  simp only at ht ⊢
  have hm := ht.sizes
  have hln := ht.len
  have hb0 : Below w.heap.size w ((w.alloc (.cells #[.int .i64 base, .slice eo ts.length ec] 43)).alloc (.cells #[.int .i64 0, .slice none 0 0] 43)) := (((Below.refl _ _).alloc (Nat.le_refl _) _).alloc (by simp) _)
  have hL := (ListsR.one (ht.below hb0 hB) (by have := hb0.size; omega)).below (g_drewN_below _ _ 1) (Nat.le_refl _)
  have CJ := join_own _ [ts] _ _ hL (by simp) (by simpa using hln) (by simpa using hm)
  have hb1 : Below w.heap.size w (((w.alloc (.cells #[.int .i64 base, .slice eo ts.length ec] 43)).alloc (.cells #[.int .i64 0, .slice none 0 0] 43)).alloc (.cells #[.slice eo ts.length ec] 29)).drew := (hb0.alloc (by simp; omega) _).drew
  have hX : (((w.alloc (.cells #[.int .i64 base, .slice eo ts.length ec] 43)).alloc (.cells #[.int .i64 0, .slice none 0 0] 43)).alloc (.cells #[.slice eo ts.length ec] 29)).drew.heap[w.heap.size]? = some (.cells #[.int .i64 base, .slice eo ts.length ec] 43 (0, 0)) := by
    show (World.alloc _ _).heap[_]? = _
    rw [Below.heap_alloc _ _ _ (by simp; omega), Below.heap_alloc _ _ _ (by simp)]
    exact heap_alloc_new w _
  have hR : (((w.alloc (.cells #[.int .i64 base, .slice eo ts.length ec] 43)).alloc (.cells #[.int .i64 0, .slice none 0 0] 43)).alloc (.cells #[.slice eo ts.length ec] 29)).drew.heap[w.heap.size + 1]? = some (.cells #[.int .i64 0, .slice none 0 0] 43 (0, 0)) := by
    show (World.alloc _ _).heap[_]? = _
    rw [Below.heap_alloc _ _ _ (by simp)]
    have := heap_alloc_new (w.alloc (.cells #[.int .i64 base, .slice eo ts.length ec] 43)) (.cells #[.int .i64 0, .slice none 0 0] 43)
    rw [show (w.alloc (.cells #[.int .i64 base, .slice eo ts.length ec] 43)).heap.size = w.heap.size + 1 by simp] at this
    exact this
  obtain ⟨X, hXe⟩ : ∃ X, X = (((w.alloc (.cells #[.int .i64 base, .slice eo ts.length ec] 43)).alloc (.cells #[.int .i64 0, .slice none 0 0] 43)).alloc (.cells #[.slice eo ts.length ec] 29)).drew := ⟨_, rfl⟩
  have hXs : X.heap.size = w.heap.size + 3 := by rw [hXe]; simp
  have ea : ((w.alloc (.cells #[.int .i64 base, .slice eo ts.length ec] 43)).alloc (.cells #[.int .i64 0, .slice none 0 0] 43)).heap.size = w.heap.size + 1 + 1 := by simp
  have CJ2 : Hid (Calls Tryz.prog 235 #[.slice (some ⟨w.heap.size + 1 + 1, 0, none⟩) 1 1] (((w.alloc (.cells #[.int .i64 base, .slice eo ts.length ec] 43)).alloc (.cells #[.int .i64 0, .slice none 0 0] 43)).alloc (.cells #[.slice eo ts.length ec] 29)).drew fun e w' => ∃ vo vc, e = .returned (.slice vo ts.length vc) ∧ w'.ownsRow (w.heap.size + 3) 9 1 (.slice vo ts.length vc) ts.length (textCells ts) ∧ Below w.heap.size w w' ∧ w'.heap[w.heap.size]? = some (.cells #[.int .i64 base, .slice eo ts.length ec] 43 (0, 0)) ∧ w'.heap[w.heap.size + 1]? = some (.cells #[.int .i64 0, .slice none 0 0] 43 (0, 0))) := by
    rw [ea] at CJ
    have e1 : World.drewN ((w.alloc (.cells #[.int .i64 base, .slice eo ts.length ec] 43)).alloc (.cells #[.int .i64 0, .slice none 0 0] 43) |>.alloc (.cells #[.slice eo ts.length ec] 29)) 1 = X := hXe.symm
    rw [e1] at CJ
    rw [← hXe] at hb1 hX hR ⊢
    refine CJ.mono ?_
    rintro e w' ⟨vo, rfl, hown, hb⟩
    simp only [List.flatten_cons, List.flatten_nil, List.append_nil] at hown
    obtain ⟨vo, vc, rfl⟩ := grow_shape hown
    exact ⟨vo, vc, rfl, grow_mono hown (by omega), hb1.trans (hb.mono (by omega)), (hb.block _ (by omega)).trans hX, (hb.block _ (by omega)).trans hR⟩
  clear hv ht hb0 hX hR hm hln hL hb1 ea CJ hXe hXs
  go_enter Tryz.func206, Tryz.ntmps206
  go_wp2_with fail
  go_region_held3 (fun w' => w'.cell? ⟨w.heap.size, 0, none⟩ = some (.int .i64 base) ∧ w'.cell? ⟨w.heap.size, 1, none⟩ = some (.slice eo ts.length ec)) (go_keep)
    (first
      | (go_at_call 235; refine CJ2.out.mono ?_; rintro e w1 ⟨vo, vc, rfl, hown1, hb1, hbx, hrx⟩; obtain ⟨b0, b1, bf, bl⟩ := two_free hbx; obtain ⟨z0, z1, zf, zl⟩ := two_free hrx))
  have HR1 := ghid (grow_mono (zset2_row (b := w.heap.size + 1) hown1 (by omega) (.int .i64 base) (.slice vo ts.length vc)) (by omega : w.heap.size + 1 ≤ w.heap.size + 3))
  have HB1 := ghid (zset2 (b := w.heap.size + 1) hb1 (by omega) (.int .i64 base) (.slice vo ts.length vc))
  clear hown1 hb1 hbx hrx
  go_wp2
  refine bodyPost_ret (v := .agg #[.int .i64 base, .slice vo ts.length vc]) (by simp [results, Tryz.results206, go_sem, z0, z1]) rfl ?_
  exact ⟨_, _, rfl, HR1.out, HB1.out⟩

end Go.Proofs.YtijilhbdbeajjaaGreatDoor

namespace Go.Proofs.YtijilhbdbeajjaaGreatDoor

open Go.RowKit

/-- log.Copy and machine.Copy, as they are used here. -/
theorem logCopy_new (v : Value) (l : LogD) (w : World) (B : Nat) (hv : LogR w B v l) (hB : B ≤ w.heap.size) :
    Calls Tryz.prog 206 #[v] w fun e w' => ∃ vo vc, e = .returned (.agg #[.int .i64 l.base, .slice vo l.ents.length vc]) ∧ TextsO w' (w.heap.size + 1) (.slice vo l.ents.length vc) l.ents ∧ Below w.heap.size w w' := by
  obtain ⟨ev, -, ht⟩ := id hv
  refine (logCopy_own v l w B hv hB).mono ?_
  rintro e w' ⟨vo, vc, rfl, hown, hb⟩
  exact ⟨vo, vc, rfl, ⟨hown, ht.sizes, ht.len⟩, hb⟩

theorem machCopy_own (v : Value) (s : StateD) (w : World) (B : Nat) (hv : StateR w B v s) (hB : B ≤ w.heap.size) :
    Calls Tryz.prog 59 #[v] w fun e w' => ∃ lo po so ln lc pn pc sn sc, e = .returned (.agg #[.int .i64 s.index, .slice lo ln lc, .slice po pn pc, .slice so sn sc]) ∧ StateO w' (.agg #[.int .i64 s.index, .slice lo ln lc, .slice po pn pc, .slice so sn sc]) s ∧ Below w.heap.size w w' :=
  (machCopy_any v s w B hv hB).mono fun _ _ ⟨lo, po, so, ln, lc, pn, pc, sn, sc, e, h1, h2, h3, hb⟩ => ⟨lo, po, so, ln, lc, pn, pc, sn, sc, e, ⟨lo, po, so, ln, lc, pn, pc, sn, sc, rfl, h1, h2, h3⟩, hb⟩

set_option maxRecDepth 100000 in
set_option maxHeartbeats 1600000 in
theorem repCopy_own (v : Value) (r : RepD) (w : World) (B : Nat) (hv : RepR w B v r) (hB : B ≤ w.heap.size) :
    Calls Tryz.prog 201 #[v] w fun e w' => ∃ v', e = .returned v' ∧ RepO w' w.heap.size v' r ∧ Below w.heap.size w w' := by
  obtain ⟨eo, lo, po, so, ec, ln, lc, pn, pc, sn, sc, rfl, hl, hs, hst⟩ := hv.parts
  obtain ⟨⟨base, ts⟩, sp, s⟩ := r
  simp only at hl hs hst ⊢
  obtain ⟨ix, hix⟩ : ∃ ix, ix = s.index := ⟨_, rfl⟩
  obtain ⟨n, hn⟩ : ∃ n, n = ts.length := ⟨_, rfl⟩
  have HZ : Hid (Below w.heap.size w ((w.alloc (.cells #[.int .i64 base, .slice eo n ec, .string sp, .int .i64 ix, .slice lo ln lc, .slice po pn pc, .slice so sn sc] 50)).alloc (.cells #[.int .i64 0, .slice none 0 0, .string ⟨#[]⟩, .int .i64 0, .slice none 0 0, .slice none 0 0, .slice none 0 0] 50)).drew) := (((Below.refl _ _).alloc (Nat.le_refl _) _).alloc (by simp) _).drew
  have CL := ghid (fun u (hu : Below w.heap.size w u) => logCopy_new _ ⟨base, ts⟩ u B (hl.below hu hB) (by have := hu.size; omega))
  have CM := ghid (fun u (hu : Below w.heap.size w u) => machCopy_own _ s u B (hst.below hu hB) (by have := hu.size; omega))
  have CS := ghid (fun u => clone_any sp u (by omega))
  have HS := ghid hs
  simp only at CL
  rw [← hn] at CL ⊢
  rw [← hix] at CM ⊢
  have HN := ghid hn
  have HI := ghid hix
  obtain ⟨hr0, hx0⟩ := two_new (w := w) (A := .cells #[.int .i64 base, .slice eo n ec, .string sp, .int .i64 ix, .slice lo ln lc, .slice po pn pc, .slice so sn sc] 50) (R := .cells #[.int .i64 0, .slice none 0 0, .string ⟨#[]⟩, .int .i64 0, .slice none 0 0, .slice none 0 0, .slice none 0 0] 50) (Below.refl _ _)
  have HX0 := ghid hx0
  have HR0 := ghid hr0
  have HZS : Hid (((w.alloc (.cells #[.int .i64 base, .slice eo n ec, .string sp, .int .i64 ix, .slice lo ln lc, .slice po pn pc, .slice so sn sc] 50)).alloc (.cells #[.int .i64 0, .slice none 0 0, .string ⟨#[]⟩, .int .i64 0, .slice none 0 0, .slice none 0 0, .slice none 0 0] 50)).drew.heap.size = w.heap.size + 2) := by unfold Hid; simp
  clear hl hs hst hv hn hix hx0 hr0
  go_enter Tryz.func201, Tryz.ntmps201
  go_wp2_with fail
  go_region_held3 (fun w' => w'.cell? ⟨w.heap.size, 0, none⟩ = some (.int .i64 base) ∧ w'.cell? ⟨w.heap.size, 1, none⟩ = some (.slice eo n ec) ∧ w'.cell? ⟨w.heap.size, 2, none⟩ = some (.string sp) ∧ w'.cell? ⟨w.heap.size, 3, none⟩ = some (.int .i64 ix) ∧ w'.cell? ⟨w.heap.size, 4, none⟩ = some (.slice lo ln lc) ∧ w'.cell? ⟨w.heap.size, 5, none⟩ = some (.slice po pn pc) ∧ w'.cell? ⟨w.heap.size, 6, none⟩ = some (.slice so sn sc)) (go_keep)
    (first
      | (go_at_call 206; refine (CL.out _ HZ.out).mono ?_; rintro e w1 ⟨vo, vc, rfl, ho1, hb1⟩; have HB1 := ghid (HZ.out.trans (hb1.mono HZ.out.size)); have HO1 := ghid ho1; have HX1 := ghid (behind HX0.out (Below.refl _ _) hb1); have HR1 := ghid (behind HR0.out (Below.refl _ _) hb1); have hzz := hb1.size; have hz1 : w.heap.size + 2 ≤ w1.heap.size := HZS.out ▸ hzz; clear hzz hb1 ho1; obtain ⟨c0, c1, c2, c3, c4, c5, c6, cf, hpl⟩ := seven_cells HX1.out)
      | (go_at_call 134; refine (CS.out _).mono ?_; rintro e w2 ⟨rfl, hb2⟩; have HB2 := ghid (HB1.out.trans (hb2.mono HB1.out.size)); have HO2 := ghid (HO1.out.touch (TouchG.of_below hb2 (Nat.le_refl _) (fun _ => False)) (fun _ _ h => h.elim)); have HX2 := ghid (behind HX1.out (Below.refl _ _) hb2); have HR2 := ghid (behind HR1.out (Below.refl _ _) hb2); have hz2 := hb2.size; clear hb2; obtain ⟨c0, c1, c2, c3, c4, c5, c6, cf, hpl⟩ := seven_cells HX2.out)
      | (go_at_call 59; refine (CM.out _ HB2.out).mono ?_; rintro e w3 ⟨lo3, po3, so3, ln3, lc3, pn3, pc3, sn3, sc3, rfl, hs3, hb3⟩; have HB3 := ghid (HB2.out.trans (hb3.mono HB2.out.size)); have HO3 := ghid (HO2.out.touch (TouchG.of_below hb3 (Nat.le_refl _) (fun _ => False)) (fun _ _ h => h.elim)); have HS3 := ghid hs3; have HR3 := ghid (behind HR2.out (Below.refl _ _) hb3); obtain ⟨c0, c1, c2, c3, c4, c5, c6, cf, hpl⟩ := seven_cells (behind HX2.out (Below.refl _ _) hb3); clear hb3 hs3; obtain ⟨r0, r1, r2, r3, r4, r5, r6, rf, rl⟩ := seven_cells HR3.out))
  all_goals
    have HF := ghid (RepO.made (m := w.heap.size) (base := base) HO3.out HN.out HS.out HS3.out HI.out HR3.out (by rw [HZS.out]; omega))
    have HB := ghid (zset7 (b := w.heap.size + 1) HB3.out (by omega) (.int .i64 base) (.slice vo n vc) (.string sp) (.int .i64 ix) (.slice lo3 ln3 lc3) (.slice po3 pn3 pc3) (.slice so3 sn3 sc3))
    clear HO3 HS3 HR3 HB3 HR1 HX1 HR2 HX2 c0 c1 c2 c3 c4 c5 c6 cf hpl
    go_wp2
    refine bodyPost_ret (v := .agg #[.int .i64 base, .slice vo n vc, .string sp, .int .i64 ix, .slice lo3 ln3 lc3, .slice po3 pn3 pc3, .slice so3 sn3 sc3]) (by simp [results, Tryz.results201, go_sem, r0, r1, r2, r3, r4, r5, r6]) rfl ?_
    exact ⟨_, rfl, HF.out, HB.out⟩

end Go.Proofs.YtijilhbdbeajjaaGreatDoor

namespace Go.Proofs.YtijilhbdbeajjaaGreatDoor

open Go.RowKit

/-- The cells of a mail. -/
def mailCells (m : MailD) : List Value := [.int .i64 m.client, .int .i64 m.seq, .int .i64 m.reply.code, .int .i64 m.reply.n, .string m.reply.text]

theorem mailCells_one (m : MailD) : ∀ v ∈ mailCells m, v.oneCell' = true := by
  intro v hv
  simp only [mailCells, List.mem_cons, List.not_mem_nil, or_false] at hv
  rcases hv with rfl | rfl | rfl | rfl | rfl <;> rfl

theorem Tryz.infoMail : (Tryz.prog.info? 92).map (fun i => (i.zero, i.size, i.bytes)) = some (some (.agg #[.int .i64 0, .int .i64 0, .int .i64 0, .int .i64 0, .string ⟨#[]⟩]), 5, 48) := by kernel_rfl

theorem mailsE_snoc (s : StateD) (ts : List ByteArray) (t : ByteArray) : mailsE s (ts ++ [t]) = mailsE s ts ++ [⟨(decL t).client, (decL t).seq, (applyM (runE s ts) (decL t)).2⟩] := by
  induction ts generalizing s with
  | nil => rfl
  | cons u r ih =>
    show (⟨_, _, _⟩ : MailD) :: mailsE _ (r ++ [t]) = _
    rw [ih]
    rfl

theorem mailsE_length (s : StateD) (ts : List ByteArray) : (mailsE s ts).length = ts.length := by
  induction ts generalizing s with
  | nil => rfl
  | cons u r ih => simp [mailsE, ih]

/-- Each state on the way may be. -/
theorem runE_good {s : StateD} {ts : List ByteArray} (h : GoodM s) (hd : ∀ t ∈ ts, decE t = 0) (hl : s.index + ts.length ≤ 1073741824) (k : Nat) (hk : k ≤ ts.length) : GoodM (runE s (ts.take k)) ∧ (runE s (ts.take k)).index = s.index + k := by
  induction k with
  | zero => exact ⟨h, by simp [runE]⟩
  | succ k ih =>
    obtain ⟨h1, h2⟩ := ih (by omega)
    have hlt : k < ts.length := by omega
    rw [List.take_succ_eq_append_getElem hlt, runE_append]
    obtain ⟨g1, -⟩ := applyM_good h1 (by rw [h2]; omega) (decL_err (hd ts[k] (List.getElem_mem hlt)))
    exact ⟨g1, by show (applyM _ _).1.index = _; rw [applyM_index, h2]; omega⟩

/-- The replica r lies in block p. -/
def RepB (w : World) (p n : Nat) (r : RepD) : Prop :=
  ∃ (eo lo po so : Option Addr) (ec ln lc pn pc sn sc : Nat), w.heap[p]? = some (.cells #[.int .i64 r.log.base, .slice eo r.log.ents.length ec, .string r.snap, .int .i64 r.state.index, .slice lo ln lc, .slice po pn pc, .slice so sn sc] 50 (0, 0)) ∧
    TextsO w n (.slice eo r.log.ents.length ec) r.log.ents ∧ r.snap.size ≤ 140737488351232 ∧ StateO w (.agg #[.int .i64 r.state.index, .slice lo ln lc, .slice po pn pc, .slice so sn sc]) r.state

theorem RepB.touch {w w' : World} {p n : Nat} {r : RepD} {S : Nat → Prop} (h : RepB w p n r) (ht : TouchG w w' S) (hp : ¬ S p) (hf : ∀ g, g < w.heap.size → S g → Alien w g) : RepB w' p n r := by
  obtain ⟨eo, lo, po, so, ec, ln, lc, pn, pc, sn, sc, h0, h1, h2, h3⟩ := h
  exact ⟨eo, lo, po, so, ec, ln, lc, pn, pc, sn, sc, (ht.block p (Array.getElem?_eq_some_iff.1 h0).1 hp).trans h0, h1.touch ht hf, h2, h3.touch ht fun g hg hs => (hf g hg hs).foreign⟩

theorem RepB.below {w w' : World} {p n : Nat} {r : RepD} (h : RepB w p n r) (hb : Below w.heap.size w w') : RepB w' p n r :=
  h.touch (TouchG.of_below hb (Nat.le_refl _) (fun _ => False)) (fun h => h) (fun _ _ h => h.elim)

theorem RepB.lt {w : World} {p n : Nat} {r : RepD} (h : RepB w p n r) : p < w.heap.size := by
  obtain ⟨_, _, _, _, _, _, _, _, _, _, _, h, -⟩ := h
  exact (Array.getElem?_eq_some_iff.1 h).1

/-- A state put into the replica's block. -/
theorem RepB.put {w : World} {p n : Nat} {r : RepD} {s : StateD} {x0 x1 x2 x3 : Value} (h : RepB w p n r) (ho : StateO w (.agg #[x0, x1, x2, x3]) s) :
    RepB ((((w.setCell ⟨p, 3, none⟩ x0).setCell ⟨p, 4, none⟩ x1).setCell ⟨p, 5, none⟩ x2).setCell ⟨p, 6, none⟩ x3) p n ⟨r.log, r.snap, s⟩ := by
  obtain ⟨eo, lo', po', so', ec, ln', lc', pn', pc', sn', sc', h0, h1, h2, -⟩ := h
  obtain ⟨lo, po, so, ln, lc, pn, pc, sn, sc, e, k⟩ := id ho
  simp only [Value.agg.injEq, Array.mk.injEq, List.cons.injEq, and_true] at e
  obtain ⟨rfl, rfl, rfl, rfl⟩ := e
  have ht := ((((TouchG.refl w (fun b => b = p)).setCell (a := ⟨p, 3, none⟩) (Or.inl rfl) (.int .i64 s.index)).setCell (a := ⟨p, 4, none⟩) (Or.inl rfl) (.slice lo ln lc)).setCell (a := ⟨p, 5, none⟩) (Or.inl rfl) (.slice po pn pc)).setCell (a := ⟨p, 6, none⟩) (Or.inl rfl) (.slice so sn sc)
  have hf : ∀ g, g < w.heap.size → g = p → Alien w g := fun g _ e => e ▸ rep_alien h0
  exact ⟨eo, lo, po, so, ec, ln, lc, pn, pc, sn, sc, by rw [heap_set (heap_set (heap_set (heap_set h0 _) _) _) _]; rfl, h1.touch ht hf, h2, ho.touch ht fun g hg hs => (hf g hg hs).foreign⟩

theorem RepO.mono {w : World} {n m : Nat} {v : Value} {r : RepD} (h : RepO w n v r) (hm : m ≤ n) : RepO w m v r := by
  obtain ⟨eo, lo, po, so, ec, ln, lc, pn, pc, sn, sc, rfl, h1, h2, h3⟩ := h
  exact ⟨eo, lo, po, so, ec, ln, lc, pn, pc, sn, sc, rfl, h1.mono hm, h2, h3⟩

/-- A row of mails is no replica's block. -/
theorem res_not_row {w : World} {base p k : Nat} {v : Value} {xs : List Value} {cs : Array Value} (h0 : w.heap[p]? = some (.cells cs 50 (0, 0))) (h : w.ownsRow base 92 5 v k xs) : v.ownBlock ≠ some p := fun hbk => by
  rcases h.2 with ⟨e, _⟩ | ⟨g, cap, cur, e, _, hh, _⟩
  · rw [e] at hbk; cases hbk
  · rw [e] at hbk
    simp only [Value.ownBlock, Option.some.injEq] at hbk
    subst hbk
    rw [h0] at hh
    simp at hh

theorem rep_not_row {w : World} {base n p k : Nat} {v : Value} {xs : List Value} {r : RepD} (hp : RepB w p n r) (h : w.ownsRow base 92 5 v k xs) : v.ownBlock ≠ some p := fun hbk => by
  obtain ⟨_, _, _, _, _, _, _, _, _, _, _, h0, -⟩ := hp
  exact res_not_row h0 h hbk

/-- A row of mails is left by stores into a replica's block. -/
theorem row_rep {w w5 w6 : World} {base n p : Nat} {v : Value} {k : Nat} {xs : List Value} {r : RepD} (h : w.ownsRow base 92 5 v k xs) (hp : RepB w p n r) (hb : Below w.heap.size w w5) (ht : TouchG w5 w6 (fun b => b = p)) : w6.ownsRow base 92 5 v k xs := by
  have h5 := grow_below h hb (Nat.le_refl _)
  refine grow_keep h5 fun b hbk => ht.block b (h5.lt b hbk).2 fun e => ?_
  subst e
  exact rep_not_row (hp.below hb) h5 hbk

set_option maxRecDepth 100000 in
set_option maxHeartbeats 6400000 in
theorem repApply_any (v : Value) (r : RepD) (upto : Int) (w : World) (B : Nat) (hv : RepR w B v r) (hB : B ≤ w.heap.size) (hr : repE r = 0) (hu : 0 ≤ upto ∧ upto ≤ 1073741824) :
    Calls Tryz.prog 154 #[v, .int .i64 upto] w fun e w' => ∃ v' mv, e = .returned (.tuple #[v', mv, .int .i64 0]) ∧ RepO w' w.heap.size v' (goL r upto) ∧ w'.ownsRow w.heap.size 92 5 mv (goM r upto).length (flatG mailCells (goM r upto)) ∧ Below w.heap.size w w' := by
  obtain ⟨i0, hi0, hz0, hz1, hz2⟩ := info_parts Tryz.infoMail
  obtain ⟨k1, k2, ⟨k3, k4⟩, -⟩ := repE_zero hr
  obtain ⟨⟨l1, l2, l3⟩, lf⟩ := logE_zero k1
  have htl := todo_len hr upto
  have hgo : goE r upto = 0 := by unfold goE; rw [if_neg (by simpa using hr), if_neg (by simpa using hu)]
  have hGL : goL r upto = ⟨r.log, r.snap, runE r.state (todoL r upto)⟩ := if_pos hgo
  have hGM : goM r upto = mailsE r.state (todoL r upto) := if_pos hgo
  have hdec : ∀ t ∈ todoL r upto, decE t = 0 := fun t ht => firstE_zero.1 lf t (List.mem_of_mem_drop (List.mem_of_mem_take ht))
  unfold lastL at k4 htl
  have HG := ghid (runE_good (GoodM.of k2) hdec (by omega))
  have HD := ghid hdec
  have HMX : Hid (r.state.index + (todoL r upto).length ≤ 1073741824) := (by omega : r.state.index + (todoL r upto).length ≤ 1073741824)
  have CT := ghid (fun u (hu : Below w.heap.size w u) => toApply_any v r upto u B (hv.below hu hB) (by have := hu.size; omega) hr)
  have CY := ghid (fun u (hu : Below w.heap.size w u) => repCopy_own v r u B (hv.below hu hB) (by have := hu.size; omega))
  have CC := ghid (fun u (hu : Below w.heap.size w u) => repCheck_ok v r u B (hv.below hu hB) (by have := hu.size; omega) hr)
  rw [hGL, hGM, mailsE_length]
  have hdl : (todoL r upto).length ≤ 400 := by omega
  obtain ⟨td, htd⟩ : ∃ td, td = todoL r upto := ⟨_, rfl⟩
  rw [← htd] at HG HD HMX CT hdl ⊢
  clear hGL hGM hdec htl htd hgo k1 k2 lf
  obtain ⟨eo, lo, po, so, ec, ln, lc, pn, pc, sn, sc, rfl, -, hs, -⟩ := hv.parts
  obtain ⟨n, hn⟩ : ∃ n, n = r.log.ents.length := ⟨_, rfl⟩
  rw [← hn] at CT CY CC ⊢
  clear hn hv
  have HZ : Hid (Below w.heap.size w ((w.alloc (.cells #[.int .i64 r.log.base, .slice eo n ec, .string r.snap, .int .i64 r.state.index, .slice lo ln lc, .slice po pn pc, .slice so sn sc] 50)).alloc (.cells #[.int .i64 0, .slice none 0 0, .string ⟨#[]⟩, .int .i64 0, .slice none 0 0, .slice none 0 0, .slice none 0 0] 50))) := (((Below.refl _ _).alloc (Nat.le_refl _) _).alloc (by simp) _)
  have hu1 := hu.1
  have hu2 := hu.2
  clear hu
  go_enter Tryz.func154, Tryz.ntmps154
  go_wp2_with fail
  refine (CC.out _ HZ.out).mono ?_
  rintro e w1 ⟨rfl, hb⟩
  obtain ⟨hx, hrr, hbw⟩ := boxes7 (by simpa using hb)
  have HB := ghid hbw
  have HX := ghid hx
  have HR := ghid hrr
  clear hb hx hrr hbw CC
  obtain ⟨c0, c1, c2, c3, c4, c5, c6, cf, hpl⟩ := seven_cells HX.out
  go_wp2_with fail
  refine (CY.out _ HB.out).mono ?_
  rintro e w2 ⟨v2, rfl, ho2, hb2⟩
  obtain ⟨eo2, lo2, po2, so2, ec2, ln2, lc2, pn2, pc2, sn2, sc2, rfl, q1, q2, q3⟩ := id ho2
  have hb1z := HB.out.size
  have hba : Below w2.heap.size w2 (w2.alloc (.cells #[.int .i64 r.log.base, .slice eo2 r.log.ents.length ec2, .string r.snap, .int .i64 r.state.index, .slice lo2 ln2 lc2, .slice po2 pn2 pc2, .slice so2 sn2 sc2] 50)) := (Below.refl _ _).alloc (Nat.le_refl _) _
  have HB3 := ghid (HB.out.trans ((hb2.trans (hba.mono hb2.size)).mono hb1z))
  have HX3 := ghid (behind (behind HX.out (Below.refl _ _) hb2) (Below.refl _ _) hba)
  have HR3 := ghid (behind (behind HR.out (Below.refl _ _) hb2) (Below.refl _ _) hba)
  have hrl1 : w.heap.size + 1 < w1.heap.size := (Array.getElem?_eq_some_iff.1 HR.out).1
  have HP3 : Hid (RepB (w2.alloc (.cells #[.int .i64 r.log.base, .slice eo2 r.log.ents.length ec2, .string r.snap, .int .i64 r.state.index, .slice lo2 ln2 lc2, .slice po2 pn2 pc2, .slice so2 sn2 sc2] 50)) w2.heap.size w.heap.size r) :=
    ⟨eo2, lo2, po2, so2, ec2, ln2, lc2, pn2, pc2, sn2, sc2, heap_alloc_new w2 _, (q1.below hba).mono hb1z, q2, q3.below hba⟩
  obtain ⟨w3, hw3⟩ : ∃ w3, w3 = w2.alloc (.cells #[.int .i64 r.log.base, .slice eo2 r.log.ents.length ec2, .string r.snap, .int .i64 r.state.index, .slice lo2 ln2 lc2, .slice po2 pn2 pc2, .slice so2 sn2 sc2] 50) := ⟨_, rfl⟩
  obtain ⟨y, hy⟩ : ∃ y, y = w2.heap.size := ⟨_, rfl⟩
  have hyz : w.heap.size + 1 < y := by have := hb2.size; omega
  rw [← hw3] at HB3 HX3 HR3 HP3
  rw [← hy] at HP3
  have HW3 := ghid hw3
  have HY := ghid hy
  clear ho2 q1 q2 q3 hb2 hba hw3 hy HX HR CY c0 c1 c2 c3 c4 c5 c6 cf hpl hb1z
  obtain ⟨c0, c1, c2, c3, c4, c5, c6, cf, hpl⟩ := seven_cells HX3.out
  go_upto_region 7 with fail
  rw [← HW3.out, ← HY.out]
  clear HW3 HY
  go_wp2_with fail
  refine (CT.out _ HB3.out).mono ?_
  rintro e w4 ⟨tp, tc, rfl, ht4, hb4⟩
  have HB4 := ghid (HB3.out.trans (hb4.mono HB3.out.size))
  have HR4 := ghid (behind HR3.out (Below.refl _ _) hb4)
  have HP4 := ghid (HP3.out.below hb4)
  have HT4 := ghid ht4
  have hz4 : y < w4.heap.size := HP4.out.lt
  clear hb4 HX3 HR3 HP3 HB3 CT c0 c1 c2 c3 c4 c5 c6 cf hpl
  go_wp2
  go_loopw [9, 34] (fun o i wr => ∃ k : Nat, k ≤ td.length ∧ i = .int .i64 k ∧ wr.ownsRow w.heap.size 92 5 o k (flatG mailCells (mailsE r.state (td.take k))) ∧ RepB wr y w.heap.size ⟨r.log, r.snap, runE r.state (td.take k)⟩ ∧ wr.heap[w.heap.size + 1]? = some (.cells #[.int .i64 0, .slice none 0 0, .string ⟨#[]⟩, .int .i64 0, .slice none 0 0, .slice none 0 0, .slice none 0 0] 50 (0, 0)) ∧ Below w.heap.size w4 wr) (fun _ i _ => td.length - (intOf i).toNat)
  case atStart => exact ⟨0, Nat.zero_le _, rfl, World.ownsRow_nil _ _ _ _, HP4.out, HR4.out, Below.refl _ _⟩
  case round =>
    obtain ⟨k, hk, rfl, hown, hrp, hres, hb⟩ := hrel
    by_cases hlt : k < td.length
    · obtain ⟨t, ht⟩ : ∃ t, td[k]? = some t := ⟨_, List.getElem?_eq_getElem hlt⟩
      have hbz := HB4.out.size
      obtain ⟨ao', cap', e, h1, h2, h3, h4⟩ := HT4.out.below hb hB
      simp only [Value.slice.injEq] at e
      obtain ⟨rfl, -, rfl⟩ := e
      obtain ⟨b, off, rfl, hbB, hc⟩ := h4 (by omega)
      obtain ⟨c0, hts⟩ := hc k t ht
      have hde := HD.out t (List.mem_of_getElem? ht)
      obtain ⟨g1, g2⟩ := HG.out k hk
      have hne : nextE (runE r.state (td.take k)) t = 0 := by
        unfold nextE
        rw [if_neg (by rw [g1.check]; simp), if_neg (by rw [g2]; have := HMX.out; omega)]
        exact hde
      have hte : td.take (k + 1) = td.take k ++ [t] := by rw [List.take_succ_eq_append_getElem hlt, (List.getElem?_eq_some_iff.1 ht).2]
      have HRUN : Hid (runE r.state (td.take (k + 1)) = (applyM (runE r.state (td.take k)) (decL t)).1) := by
        unfold Hid
        rw [hte, runE_append]
        rfl
      have HMS : Hid (mailsE r.state (td.take (k + 1)) = mailsE r.state (td.take k) ++ [⟨(decL t).client, (decL t).seq, (applyM (runE r.state (td.take k)) (decL t)).2⟩]) := by
        unfold Hid
        rw [hte, mailsE_snoc]
      have CA := ghid (fun (v : Value) (hv : StateR wr wr.heap.size v (runE r.state (td.take k))) => Apply_own v (runE r.state (td.take k)) t wr wr.heap.size hv (Nat.le_refl _) hts hne)
      obtain ⟨ms, hms⟩ : ∃ ms, ms = mailsE r.state (td.take k) := ⟨_, rfl⟩
      have hml : ms.length = k := by rw [hms, mailsE_length, List.length_take]; omega
      obtain ⟨s', hs'⟩ : ∃ s', s' = runE r.state (td.take k) := ⟨_, rfl⟩
      obtain ⟨⟨s2, ⟨rc, rn, rt⟩⟩, hs2⟩ : ∃ q, q = applyM (runE r.state (td.take k)) (decL t) := ⟨_, rfl⟩
      rw [← hs2] at CA HRUN HMS
      rw [← hs'] at CA hrp
      rw [← hms] at HMS hown
      simp only at CA HRUN HMS
      have CM := ghid (fun u => mailOf_any t rc rn rt u hts)
      obtain ⟨mc, hmc⟩ : ∃ mc, mc = (decL t).client := ⟨_, rfl⟩
      obtain ⟨mq, hmq⟩ : ∃ mq, mq = (decL t).seq := ⟨_, rfl⟩
      rw [← hmc, ← hmq] at CM HMS
      have HOWN := ghid hown
      have HRP := ghid hrp
      have HRES := ghid hres
      have HB := ghid hb
      have hypl := hrp.lt
      have hzw := hb.size
      obtain ⟨fo, lo5, po5, so5, fc, ln5, lc5, pn5, pc5, sn5, sc5, h0, -, -, q3⟩ := hrp
      have CA' := ghid (CA.out _ q3.reads)
      obtain ⟨e0, e1, e2, e3, e4, e5, e6, ef, -⟩ := seven_cells h0
      simp only at e3 e4 e5 e6 CA'
      obtain ⟨oo, oc, rfl⟩ := grow_shape hown
      have hltI : (k : Int) < (td.length : Int) := by omega
      clear ht hc h4 h1 h2 h3 hde g1 g2 hne hte hms hml hs' hs2 hmc hmq hown hres hb h0 q3 CA
      go_wp2_with fail
      refine CA'.out.mono ?_
      rintro e w5 ⟨v5, rfl, ho5, hb5⟩
      obtain ⟨lo6, po6, so6, ln6, lc6, pn6, pc6, sn6, sc6, rfl, -⟩ := id ho5
      have hz5 := hb5.size
      have K := (HRP.out.below hb5).put ho5
      have ht4 : TouchG w5 ((((w5.setCell ⟨y, 3, none⟩ (.int .i64 s2.index)).setCell ⟨y, 4, none⟩ (.slice lo6 ln6 lc6)).setCell ⟨y, 5, none⟩ (.slice po6 pn6 pc6)).setCell ⟨y, 6, none⟩ (.slice so6 sn6 sc6)) (fun b => b = y) := ((((TouchG.refl w5 (fun b => b = y)).setCell (a := ⟨y, 3, none⟩) (Or.inl rfl) _).setCell (a := ⟨y, 4, none⟩) (Or.inl rfl) _).setCell (a := ⟨y, 5, none⟩) (Or.inl rfl) _).setCell (a := ⟨y, 6, none⟩) (Or.inl rfl) _
      have ho4 := row_rep (HOWN.out) (HRP.out) hb5 ht4
      have hr4 : ((((w5.setCell ⟨y, 3, none⟩ (.int .i64 s2.index)).setCell ⟨y, 4, none⟩ (.slice lo6 ln6 lc6)).setCell ⟨y, 5, none⟩ (.slice po6 pn6 pc6)).setCell ⟨y, 6, none⟩ (.slice so6 sn6 sc6)).heap[w.heap.size + 1]? = some (.cells #[.int .i64 0, .slice none 0 0, .string ⟨#[]⟩, .int .i64 0, .slice none 0 0, .slice none 0 0, .slice none 0 0] 50 (0, 0)) := (ht4.block _ (by omega) (by omega)).trans (behind HRES.out (Below.refl _ _) hb5)
      have hb4 : Below w.heap.size w4 ((((w5.setCell ⟨y, 3, none⟩ (.int .i64 s2.index)).setCell ⟨y, 4, none⟩ (.slice lo6 ln6 lc6)).setCell ⟨y, 5, none⟩ (.slice po6 pn6 pc6)).setCell ⟨y, 6, none⟩ (.slice so6 sn6 sc6)) := (HB.out.trans (hb5.mono (by omega))).trans (ht4.below (B := w.heap.size) (by omega) (fun k e => by rw [e]; omega))
      have hb4' : w.heap.size ≤ ((((w5.setCell ⟨y, 3, none⟩ (.int .i64 s2.index)).setCell ⟨y, 4, none⟩ (.slice lo6 ln6 lc6)).setCell ⟨y, 5, none⟩ (.slice po6 pn6 pc6)).setCell ⟨y, 6, none⟩ (.slice so6 sn6 sc6)).heap.size := by have := hb4.size; omega
      have HF : Hid (∀ A R : Obj, RepB ((((((w5.setCell ⟨y, 3, none⟩ (.int .i64 s2.index)).setCell ⟨y, 4, none⟩ (.slice lo6 ln6 lc6)).setCell ⟨y, 5, none⟩ (.slice po6 pn6 pc6)).setCell ⟨y, 6, none⟩ (.slice so6 sn6 sc6)).alloc A).alloc R) y w.heap.size ⟨r.log, r.snap, s2⟩ ∧ ((((((w5.setCell ⟨y, 3, none⟩ (.int .i64 s2.index)).setCell ⟨y, 4, none⟩ (.slice lo6 ln6 lc6)).setCell ⟨y, 5, none⟩ (.slice po6 pn6 pc6)).setCell ⟨y, 6, none⟩ (.slice so6 sn6 sc6)).alloc A).alloc R).ownsRow w.heap.size 92 5 (.slice oo k oc) k (flatG mailCells ms) ∧ ((((((w5.setCell ⟨y, 3, none⟩ (.int .i64 s2.index)).setCell ⟨y, 4, none⟩ (.slice lo6 ln6 lc6)).setCell ⟨y, 5, none⟩ (.slice po6 pn6 pc6)).setCell ⟨y, 6, none⟩ (.slice so6 sn6 sc6)).alloc A).alloc R).heap[w.heap.size + 1]? = some (.cells #[.int .i64 0, .slice none 0 0, .string ⟨#[]⟩, .int .i64 0, .slice none 0 0, .slice none 0 0, .slice none 0 0] 50 (0, 0)) ∧ Below w.heap.size w4 ((((((w5.setCell ⟨y, 3, none⟩ (.int .i64 s2.index)).setCell ⟨y, 4, none⟩ (.slice lo6 ln6 lc6)).setCell ⟨y, 5, none⟩ (.slice po6 pn6 pc6)).setCell ⟨y, 6, none⟩ (.slice so6 sn6 sc6)).alloc A).alloc R)) := by
        intro A R
        exact ⟨(K.below ((Below.refl _ _).alloc (Nat.le_refl _) A)).below ((Below.refl _ _).alloc (Nat.le_refl _) R), (ho4.alloc A).alloc R, behind (behind hr4 (Below.refl _ _) ((Below.refl _ _).alloc (Nat.le_refl _) A)) (Below.refl _ _) ((Below.refl _ _).alloc (Nat.le_refl _) R), (hb4.alloc hb4' A).alloc (by have := hb4'; rw [World.size_alloc]; omega) R⟩
      obtain ⟨f0, l0, p0, s0, fc0, ln0, lc0, pn0, pc0, sn0, sc0, hy5, -⟩ := HRP.out.below hb5
      obtain ⟨e0, e1, e2, e3, e4, e5, e6, ef, hyl⟩ := seven_cells hy5
      have hq1 : y ≠ w5.heap.size := by omega
      have hq2 : y ≠ w5.heap.size + 1 := by omega
      have hq3 : w5.heap.size ≠ y := by omega
      have hq4 : w5.heap.size + 1 ≠ y := by omega
      clear hb5 ho5 K ht4 ho4 hr4 hb4 hy5 CA'
      go_wp2_with fail
      refine (CM.out _).mono ?_
      rintro e w7 ⟨rfl, hb7⟩
      obtain ⟨g1, g2, g3, g4⟩ := HF.out (.cells #[.int .i64 s2.index, .slice lo6 ln6 lc6, .slice po6 pn6 pc6, .slice so6 sn6 sc6] 48) (.cells #[.int .i64 rc, .int .i64 rn, .string rt] 73)
      have HP7 := ghid (g1.below hb7)
      have HO7 := ghid (grow_below g2 hb7 (Nat.le_refl _))
      have HR7 := ghid (behind g3 (Below.refl _ _) hb7)
      have hzW := g4.size
      have HB7 := ghid (g4.trans (hb7.mono (by omega)))
      have hz7 : w.heap.size ≤ w7.heap.size := by have := HB7.out.size; omega
      clear g1 g2 g3 g4 hb7 HF hzW e0 e1 e2 e3 e4 e5 e6 ef hyl
      go_wp2_with (at_builtin; refine wpList_append_lies _ rfl (.tmp 52) (.tmp 56) 28 rfl w.heap.size 92 i0 _ 5 48 Tryz.underlying28 hi0 hz0 hz1 hz2 rfl (by decide) (.slice oo k oc) k (flatG mailCells ms) rfl (HO7.out.alloc _) ⟨w7.heap.size, 0, none⟩ 1 1 (mailCells ⟨mc, mq, ⟨rc, rn, rt⟩⟩) rfl rfl (World.news_of_block (heap_alloc_new w7 _)) (mailCells_one _) (by omega) (by unfold maxLen; omega) (by omega) (by simp; omega) (w7.heap.size + 1) (by simp) ?_)
      intro gn cn w8 hown8 hg8 hat8 hlt8
      have hba := (Below.refl w7.heap.size w7).alloc (Nat.le_refl _) (.cells #[.int .i64 mc, .int .i64 mq, .int .i64 rc, .int .i64 rn, .string rt] 92)
      have ht8 := (TouchG.refl _ (fun b => (Value.slice oo k oc).ownBlock = some b)).grown hg8 (fun b e => Or.inl e)
      have HP8 := ghid ((HP7.out.below hba).touch ht8 (fun e => rep_not_row (HP7.out.below hba) (HO7.out.alloc _) e) (fun g _ e => Alien.row (HO7.out.alloc _) e (by decide) (by decide) (by decide) (by decide) (by decide) (by decide)))
      have HR8 : Hid (w8.heap[w.heap.size + 1]? = _) := (ht8.block _ (by have := (Array.getElem?_eq_some_iff.1 HR7.out).1; rw [World.size_alloc]; omega) (fun e => res_not_row HR7.out HO7.out e)).trans (behind HR7.out (Below.refl _ _) hba)
      have HB8 := ghid ((HB7.out.alloc hz7 (.cells #[.int .i64 mc, .int .i64 mq, .int .i64 rc, .int .i64 rn, .string rt] 92)).grown hg8 (by simp; omega) (fun j hj => (HO7.out.lt j hj).1))
      have HO8 : Hid (w8.ownsRow w.heap.size 92 5 (.slice (some ⟨gn, 0, none⟩) (k + 1) cn) (k + 1) (flatG mailCells (mailsE r.state (td.take (k + 1))))) := by
        unfold Hid
        rw [HMS.out, flatG_snoc]
        exact hown8
      clear hown8 hg8 hat8 hlt8 ht8 hba
      go_wp2
      go_roundw
      case rel => exact ⟨k + 1, by omega, by go_num, HO8.out, by rw [HRUN.out]; exact HP8.out, HR8.out, HB8.out⟩
      case measure => simp [intOf]; omega
    · obtain rfl : k = td.length := by omega
      rw [List.take_length] at hown hrp
      obtain ⟨eo3, lo3, po3, so3, ec3, ln3, lc3, pn3, pc3, sn3, sc3, h0, q1, q2, q3⟩ := hrp
      obtain ⟨e0, e1, e2, e3, e4, e5, e6, ef, hyl⟩ := seven_cells h0
      obtain ⟨r0, r1, r2, r3, r4, r5, r6, rf, rl⟩ := seven_cells hres
      simp only at e0 e1 e2 e3 e4 e5 e6 q1 q2 q3
      have hq1 : y ≠ w.heap.size + 1 := by omega
      have hq2 : w.heap.size + 1 ≠ y := by omega
      have HF := ghid (zset7 (b := w.heap.size + 1) (HB4.out.trans (hb.mono (Nat.le_refl _))) (by omega) (.int .i64 r.log.base) (.slice eo3 r.log.ents.length ec3) (.string r.snap) (.int .i64 (runE r.state td).index) (.slice lo3 ln3 lc3) (.slice po3 pn3 pc3) (.slice so3 sn3 sc3))
      have HO := ghid (RepO.touch (r := ⟨r.log, r.snap, runE r.state td⟩) (n := w.heap.size) ⟨eo3, lo3, po3, so3, ec3, ln3, lc3, pn3, pc3, sn3, sc3, rfl, q1, q2, q3⟩ (touch7 (w.heap.size + 1) (.int .i64 r.log.base) (.slice eo3 r.log.ents.length ec3) (.string r.snap) (.int .i64 (runE r.state td).index) (.slice lo3 ln3 lc3) (.slice po3 pn3 pc3) (.slice so3 sn3 sc3)) fun _ _ e => e ▸ rep_alien hres)
      have HM := ghid (grow_keep hown fun b hbk => (touch7 (w.heap.size + 1) (.int .i64 r.log.base) (.slice eo3 r.log.ents.length ec3) (.string r.snap) (.int .i64 (runE r.state td).index) (.slice lo3 ln3 lc3) (.slice po3 pn3 pc3) (.slice so3 sn3 sc3)).block b (hown.lt b hbk).2 fun e => res_not_row hres hown (e ▸ hbk))
      obtain ⟨oo, oc, rfl⟩ := grow_shape hown
      clear h0 q1 q2 q3 hres hown hb
      go_wp2
      refine bodyPost_ret (v := .tuple #[.agg #[.int .i64 r.log.base, .slice eo3 r.log.ents.length ec3, .string r.snap, .int .i64 (runE r.state td).index, .slice lo3 ln3 lc3, .slice po3 pn3 pc3, .slice so3 sn3 sc3], .slice oo td.length oc, .int .i64 0]) (by simp [results, Tryz.results154, go_sem, r0, r1, r2, r3, r4, r5, r6]) rfl ?_
      exact ⟨_, _, rfl, HO.out, HM.out, HF.out⟩

end Go.Proofs.YtijilhbdbeajjaaGreatDoor

namespace Go.Proofs.YtijilhbdbeajjaaGreatDoor

open Go.RowKit

theorem rep_ok {b : Int} {ts : List ByteArray} {sp : ByteArray} {s : StateD} (hts : firstE ts = 0) (h0 : 0 ≤ b) (hb : b ≤ 1073741424) (hl : ts.length ≤ 400) (hs : GoodM s) (h1 : b ≤ s.index) (h2 : s.index ≤ b + ts.length) (ht : tellsB sp b = true) : repE ⟨⟨b, ts⟩, sp, s⟩ = 0 :=
  repE_of (logE_ok h0 hb hl hts) hs.check ⟨h1, h2⟩ ht

theorem tells_none : tellsB ⟨#[]⟩ 0 = true := by unfold tellsB; rw [if_pos rfl]; rfl

theorem tells_snap {s : StateD} {b : Int} (hs : GoodM s) (h : s.index = b) (hb : b ≠ 0) : tellsB (snapOut s) b = true := by
  unfold tellsB
  rw [if_neg hb, (snap_all hs).1, (snap_all hs).2]
  exact decide_eq_true ⟨rfl, h⟩

theorem snapOut_some (s : StateD) : snapOut s ≠ ⟨#[]⟩ := fun e => by
  have h := snapOut_size s
  rw [e] at h
  have : (⟨#[]⟩ : ByteArray).size = 0 := rfl
  omega

/-- The state behind the first k entries. -/
def upS (a : List ByteArray) (k : Nat) : StateD := runE .zero (a.take k)

end Go.Proofs.YtijilhbdbeajjaaGreatDoor

namespace Go.Proofs.YtijilhbdbeajjaaGreatDoor

open Go.RowKit

/-- Entries agree with what they must be, up to there. -/
theorem agreeT_facts (f : Nat → Option ByteArray) : ∀ (l : List ByteArray) (i : Nat), i ≤ agreeT f i l ∧ agreeT f i l ≤ i + l.length ∧ (∀ m, i ≤ m → m < agreeT f i l → ∃ x, f (m + 1) = some x ∧ l[m - i]? = some x)
  | [], i => ⟨Nat.le_refl _, by simp [agreeT], fun m h1 h2 => by simp [agreeT] at h2; omega⟩
  | x :: r, i => by
    unfold agreeT
    by_cases h : f (i + 1) = some x
    · rw [if_pos h]
      obtain ⟨h1, h2, h3⟩ := agreeT_facts f r (i + 1)
      refine ⟨by omega, by simp only [List.length_cons]; omega, fun m hm1 hm2 => ?_⟩
      by_cases e : m = i
      · subst e
        exact ⟨x, h, by simp⟩
      · obtain ⟨y, hy1, hy2⟩ := h3 m (by omega) hm2
        refine ⟨y, hy1, ?_⟩
        have : m - i = (m - (i + 1)) + 1 := by omega
        rw [this, List.getElem?_cons_succ]
        exact hy2
    · rw [if_neg h]
      exact ⟨Nat.le_refl _, by omega, fun m h1 h2 => by omega⟩

/-- So far they do. -/
theorem agreeT_least (f : Nat → Option ByteArray) : ∀ (l : List ByteArray) (i n : Nat), n ≤ l.length → (∀ m, m < n → f (i + m + 1) = l[m]?) → i + n ≤ agreeT f i l
  | [], i, n, hn, _ => by simp at hn; subst hn; simp [agreeT]
  | x :: r, i, n, hn, h => by
    cases n with
    | zero => exact (agreeT_facts f (x :: r) i).1
    | succ n =>
      have h0 := h 0 (by omega)
      simp at h0
      unfold agreeT
      rw [if_pos h0]
      have := agreeT_least f r (i + 1) n (by simpa using hn) (fun m hm => by
        have := h (m + 1) (by omega)
        rw [List.getElem?_cons_succ] at this
        rw [← this]
        congr 1
        omega)
      omega

/-- A snapshot of the first b entries. -/
def snapAt (cm : List ByteArray) (b : Nat) : ByteArray := if b = 0 then ⟨#[]⟩ else snapOut (upS cm b)

/-- What a replica keeps to: its base and its state are behind committed entries; no index is above n. -/
structure RepT (cm : List ByteArray) (n : Nat) (r : RepD) (b i : Nat) : Prop where
  base : r.log.base = (b : Int)
  state : r.state = upS cm i
  low : b ≤ i
  done : i ≤ cm.length
  has : i ≤ b + r.log.ents.length
  top : b + r.log.ents.length ≤ n
  first : firstE r.log.ents = 0
  same : r.log.ents.take (i - b) = (cm.drop b).take (i - b)
  snap : r.snap = snapAt cm b

theorem upS_goodN {cm : List ByteArray} (hc : firstE cm = 0) (hl : cm.length ≤ 1000) {k : Nat} (hk : k ≤ cm.length) : GoodM (upS cm k) ∧ (upS cm k).index = k := by
  have h := runE_good (s := .zero) (ts := cm) goodM_nil (fun t ht => firstE_zero.1 hc t ht) (by show (0 : Int) + _ ≤ _; omega) k hk
  exact ⟨h.1, h.2.trans (by show (0 : Int) + k = k; omega)⟩

theorem upS_front {cm x : List ByteArray} {k : Nat} (hk : k ≤ cm.length) : upS (cm ++ x) k = upS cm k := by
  unfold upS
  rw [List.take_append_of_le_length hk]

theorem snapAt_front {cm x : List ByteArray} {k : Nat} (hk : k ≤ cm.length) : snapAt (cm ++ x) k = snapAt cm k := by
  unfold snapAt
  rw [upS_front hk]

theorem tells_at {cm : List ByteArray} (hc : firstE cm = 0) (hl : cm.length ≤ 1000) {b : Nat} (hb : b ≤ cm.length) : tellsB (snapAt cm b) b = true := by
  unfold snapAt
  by_cases h : b = 0
  · subst h
    rw [if_pos rfl]
    exact tells_none
  · rw [if_neg h]
    obtain ⟨h1, h2⟩ := upS_goodN hc hl hb
    exact tells_snap h1 h2 (by omega)

section

variable {cm : List ByteArray} {n : Nat} {r : RepD} {b i : Nat}

theorem RepT.good (h : RepT cm n r b i) (hc : firstE cm = 0) (hl : cm.length ≤ 1000) (hn : n ≤ 400) : repE r = 0 := by
  obtain ⟨g1, g2⟩ := upS_goodN hc hl h.done
  have h1 := h.low
  have h2 := h.has
  have h3 := h.top
  obtain ⟨⟨base, ents⟩, sp, s⟩ := r
  have hb := h.base
  have hs := h.state
  have hp := h.snap
  have hf := h.first
  simp only at hb hs hp hf h2 h3
  subst hb hs hp
  exact rep_ok hf (by omega) (by omega) (by omega) g1 (by rw [g2]; omega) (by rw [g2]; omega) (tells_at hc hl (by have := h.done; omega))

theorem RepT.grow (h : RepT cm n r b i) (x : List ByteArray) {n' : Nat} (hn : n ≤ n') : RepT (cm ++ x) n' r b i where
  base := h.base
  state := by rw [upS_front h.done]; exact h.state
  low := h.low
  done := by rw [List.length_append]; have := h.done; omega
  has := h.has
  top := Nat.le_trans h.top hn
  first := h.first
  same := by
    have h1 := h.low
    have h2 := h.done
    rw [h.same, List.drop_append_of_le_length (by omega), List.take_append_of_le_length (by rw [List.length_drop]; omega)]
  snap := by rw [snapAt_front (by have := h.low; have := h.done; omega)]; exact h.snap

/-- Entries heard behind an index that lies behind what was applied. -/
theorem RepT.hear (h : RepT cm n r b i) (hc : firstE cm = 0) (hl : cm.length ≤ 1000) (hn : n ≤ 400) {f : Nat} {l : List ByteArray} (hf1 : i ≤ f) (hf2 : f ≤ b + r.log.ents.length) (hfl : firstE l = 0) (hln : f + l.length ≤ n) :
    hearE r f l = 0 ∧ RepT cm n (hearL r f l) b i ∧ (hearL r f l).log.ents.take (f - b) = r.log.ents.take (f - b) ∧ ((hearL r f l).log.ents.drop (f - b)).take l.length = l ∧ f + l.length ≤ b + (hearL r f l).log.ents.length ∧ (f = b + r.log.ents.length → b + (hearL r f l).log.ents.length = f + l.length) := by
  have hg := h.good hc hl hn
  have hlow := h.low
  have htop := h.top
  have hhas := h.has
  obtain ⟨g1, -, -, -⟩ := repE_zero hg
  have hb := h.base
  have e1 : overL r.log f l = l := by
    unfold overL
    rw [hb]
    have : ((b : Int) - f).toNat = 0 := by omega
    rw [this, List.drop_zero]
  have e2 : aheadL r.log f = f - b := by unfold aheadL; rw [hb]; omega
  obtain ⟨nl, hnl⟩ : ∃ x, x = newL r.log f l := ⟨_, rfl⟩
  have hnew : nl.take (f - b) = r.log.ents.take (f - b) ∧ (nl.drop (f - b)).take l.length = l ∧ f - b + l.length ≤ nl.length ∧ nl.length ≤ max r.log.ents.length (f - b + l.length) ∧ firstE nl = 0 ∧ (f = b + r.log.ents.length → nl.length = f - b + l.length) := by
    rw [hnl]
    unfold newL
    rw [e1, e2]
    by_cases ho : opens l (r.log.ents.drop (f - b)) = true
    · rw [if_pos ho]
      have hp := opens_iff.1 ho
      have hlen : l.length ≤ r.log.ents.length - (f - b) := by
        have := congrArg List.length hp
        rw [List.length_take, List.length_drop] at this
        omega
      exact ⟨rfl, hp.symm, by omega, by omega, h.first, fun e => by omega⟩
    · rw [if_neg ho]
      have hlk : (r.log.ents.take (f - b)).length = f - b := by rw [List.length_take]; omega
      have ed : (r.log.ents.take (f - b) ++ l).drop (f - b) = l := by
        have := List.drop_left (l₁ := r.log.ents.take (f - b)) (l₂ := l)
        rwa [hlk] at this
      have et : (r.log.ents.take (f - b) ++ l).take (f - b) = r.log.ents.take (f - b) := by
        have := List.take_left (l₁ := r.log.ents.take (f - b)) (l₂ := l)
        rwa [hlk] at this
      refine ⟨et, by rw [ed, List.take_length], by rw [List.length_append, hlk]; exact Nat.le_refl _, by rw [List.length_append, hlk]; omega, ?_, fun _ => by rw [List.length_append, hlk]⟩
      refine firstE_zero.2 fun t ht => ?_
      rcases List.mem_append.1 ht with ht | ht
      · exact firstE_zero.1 h.first t (List.mem_of_mem_take ht)
      · exact firstE_zero.1 hfl t ht
  obtain ⟨n1, n2, n3, n4, n5, n6⟩ := hnew
  have hput : putE r.log f l = 0 := by
    unfold putE
    rw [g1, if_neg (by simp), if_neg (by omega), if_neg (by omega), if_neg (by unfold lastL; rw [hb]; omega), e1, hfl, if_neg (by simp), ← hnl, if_neg (by omega)]
  have hputL : putL r.log f l = ⟨r.log.base, nl⟩ := by unfold putL; rw [if_pos hput, hnl]
  have hst : r.state.index = (i : Int) := by rw [h.state]; exact (upS_goodN hc hl h.done).2
  have hdone : doneL r = r.log.ents.take (i - b) := by
    unfold doneL
    rw [hst, hb]
    congr 1
    omega
  have hpre : nl.take (i - b) = r.log.ents.take (i - b) := by
    have e := congrArg (List.take (i - b)) n1
    rw [List.take_take, List.take_take, Nat.min_eq_left (by omega)] at e
    exact e
  have he : hearE r f l = 0 := by
    unfold hearE
    rw [if_neg (by simpa using hg), hput, if_neg (by simp), hputL, hdone, if_neg]
    rw [opens_iff.2 (by rw [List.length_take, Nat.min_eq_left (by omega)]; exact hpre.symm)]
    decide
  have hL : hearL r f l = ⟨⟨r.log.base, nl⟩, r.snap, r.state⟩ := by unfold hearL; rw [if_pos he, hputL]
  rw [hL]
  exact ⟨he, ⟨hb, h.state, hlow, h.done, by show i ≤ b + nl.length; omega, by show b + nl.length ≤ n; omega, n5, by show nl.take _ = _; rw [hpre]; exact h.same, h.snap⟩, n1, n2, by show _ ≤ b + nl.length; omega, fun e => by show b + nl.length = _; have := n6 e; omega⟩

/-- Committed entries applied. -/
theorem RepT.apply (h : RepT cm n r b i) (hc : firstE cm = 0) (hl : cm.length ≤ 1000) (hn : n ≤ 400) {u : Int} (hu0 : 0 ≤ u) (hu1 : u ≤ cm.length) (hu2 : u ≤ (b + r.log.ents.length : Nat)) (hu3 : r.log.ents.take (u.toNat - b) = (cm.drop b).take (u.toNat - b)) :
    goE r u = 0 ∧ RepT cm n (goL r u) b (max i u.toNat) ∧ (goL r u).log = r.log ∧ (goL r u).snap = r.snap ∧ todoL r u = (cm.drop i).take (u.toNat - i) := by
  have hg := h.good hc hl hn
  have hlow := h.low
  have hdone := h.done
  have hst : r.state.index = (i : Int) := by rw [h.state]; exact (upS_goodN hc hl h.done).2
  have hb := h.base
  have he : goE r u = 0 := by unfold goE; rw [if_neg (by simpa using hg), if_neg (by omega)]
  have htodo : todoL r u = (cm.drop i).take (u.toNat - i) := by
    unfold todoL lastL
    rw [hst, hb]
    have e1 : ((i : Int) - b).toNat = i - b := by omega
    have e2 : (min (max u i) ((b : Int) + r.log.ents.length) - i).toNat = u.toNat - i := by have := h.has; omega
    rw [e1, e2]
    by_cases hiu : i ≤ u.toNat
    · have e := congrArg (List.drop (i - b)) hu3
      rw [List.drop_take, List.drop_take, List.drop_drop] at e
      rw [show u.toNat - b - (i - b) = u.toNat - i by omega, show b + (i - b) = i by omega] at e
      exact e
    · rw [show u.toNat - i = 0 by omega]
      simp
  have hL : goL r u = ⟨r.log, r.snap, upS cm (max i u.toNat)⟩ := by
    unfold goL
    rw [if_pos he, htodo, h.state]
    congr 1
    unfold upS
    rw [← runE_append]
    congr 1
    by_cases hiu : i ≤ u.toNat
    · rw [Nat.max_eq_right hiu]
      have : cm.take u.toNat = cm.take (i + (u.toNat - i)) := by congr 1; omega
      rw [this, List.take_add]
    · rw [Nat.max_eq_left (by omega), show u.toNat - i = 0 by omega]
      simp
  rw [hL]
  refine ⟨he, ⟨hb, rfl, by omega, by omega, by have := h.has; show _ ≤ b + r.log.ents.length; omega, h.top, h.first, ?_, h.snap⟩, rfl, rfl, htodo⟩
  by_cases hiu : i ≤ u.toNat
  · rw [Nat.max_eq_right hiu]
    exact hu3
  · rw [Nat.max_eq_left (by omega)]
    exact h.same

/-- Compacted: a snapshot in the place of what was applied. -/
theorem RepT.compact (h : RepT cm n r b i) (hc : firstE cm = 0) (hl : cm.length ≤ 1000) (hn : n ≤ 400) : (i = b → compE r = 12) ∧ (i ≠ b → compE r = 0 ∧ RepT cm n (compL r) i i ∧ (compL r).log.ents = r.log.ents.drop (i - b)) := by
  have hg := h.good hc hl hn
  have hlow := h.low
  have hhas := h.has
  have htop := h.top
  have hst : r.state.index = (i : Int) := by rw [h.state]; exact (upS_goodN hc hl h.done).2
  have hb := h.base
  obtain ⟨g1, -, -, -⟩ := repE_zero hg
  refine ⟨fun e => ?_, fun e => ?_⟩
  · unfold compE
    rw [if_neg (by simpa using hg), hst, hb, if_pos (by omega)]
  · have hcut : cutE r.log i = 0 := by
      unfold cutE
      rw [g1, if_neg (by simp), hb, if_neg (by unfold lastL; rw [hb]; omega), if_neg (by omega)]
    have he : compE r = 0 := by
      unfold compE
      rw [if_neg (by simpa using hg), hst, hb, if_neg (by omega), hcut, if_neg (by simp)]
    have hL : compL r = ⟨⟨i, r.log.ents.drop (i - b)⟩, snapOut r.state, r.state⟩ := by
      unfold compL
      rw [if_pos he, hst]
      unfold cutL
      rw [if_pos hcut, hb]
      congr 2
      congr 1
      omega
    rw [hL]
    refine ⟨he, ⟨rfl, h.state, Nat.le_refl _, h.done, by show i ≤ i + _; omega, by show i + (r.log.ents.drop (i - b)).length ≤ n; rw [List.length_drop]; omega, firstE_sub h.first (List.drop_sublist _ _), by simp, ?_⟩, rfl⟩
    show snapOut r.state = snapAt cm i
    unfold snapAt
    rw [if_neg (by omega), h.state]

/-- Told a snapshot of committed entries. -/
theorem RepT.install (h : RepT cm n r b i) (hc : firstE cm = 0) (hl : cm.length ≤ 1000) (hn : n ≤ 400) {B : Nat} (hB : i < B) (hBc : B ≤ cm.length) (hBn : B ≤ n) : instE r (snapAt cm B) = 0 ∧ RepT cm n (instL r (snapAt cm B)) B B ∧ (instL r (snapAt cm B)).log.ents = r.log.ents.drop (B - b) := by
  have hg := h.good hc hl hn
  have hlow := h.low
  have htop := h.top
  have hst : r.state.index = (i : Int) := by rw [h.state]; exact (upS_goodN hc hl h.done).2
  have hb := h.base
  obtain ⟨g1, -, -, -⟩ := repE_zero hg
  obtain ⟨m1, m2⟩ := upS_goodN hc hl hBc
  obtain ⟨s1, s2⟩ := snap_all m1
  have hsn : snapAt cm B = snapOut (upS cm B) := by unfold snapAt; rw [if_neg (by omega)]
  have he : instE r (snapAt cm B) = 0 := by
    unfold instE
    rw [if_neg (by simpa using hg), hsn, s1, if_neg (by simp), s2, m2, hst, if_neg (by omega), if_neg (by omega)]
  have hbe : behindE r.log B 400 = 0 := by
    unfold behindE
    rw [g1, if_neg (by simp), hb, if_neg (by omega)]
  have hbl : behindL r.log B 400 = r.log.ents.drop (B - b) := by
    unfold behindL
    rw [if_pos hbe, hb]
    rw [show ((B : Int) - b).toNat = B - b by omega, List.take_of_length_le]
    rw [List.length_drop]
    show _ ≤ 400
    omega
  have hL : instL r (snapAt cm B) = ⟨⟨B, r.log.ents.drop (B - b)⟩, snapAt cm B, upS cm B⟩ := by
    unfold instL
    rw [if_pos he, hsn, s2, m2, hbl]
  rw [hL]
  exact ⟨he, ⟨rfl, rfl, Nat.le_refl _, hBc, by show B ≤ B + _; omega, by show B + (r.log.ents.drop (B - b)).length ≤ n; rw [List.length_drop]; omega, firstE_sub h.first (List.drop_sublist _ _), by simp, rfl⟩, rfl⟩

/-- Begun anew. -/
theorem RepT.restart (h : RepT cm n r b i) (hc : firstE cm = 0) (hl : cm.length ≤ 1000) (hn : n ≤ 400) : RepT cm n (restL r) b b ∧ (restL r).log = r.log := by
  have hg := h.good hc hl hn
  have hlow := h.low
  have hdone := h.done
  have hL : restL r = ⟨r.log, r.snap, upS cm b⟩ := by
    unfold restL
    rw [if_pos hg]
    congr 1
    rw [h.snap]
    unfold recallL snapAt
    by_cases hb : b = 0
    · subst hb
      rw [if_pos rfl, if_pos rfl]
      rfl
    · rw [if_neg hb, if_neg (snapOut_some _), (snap_all (upS_goodN hc hl (by omega)).1).2]
  rw [hL]
  exact ⟨⟨h.base, rfl, Nat.le_refl _, by omega, by omega, h.top, h.first, by simp, h.snap⟩, rfl⟩

end

end Go.Proofs.YtijilhbdbeajjaaGreatDoor

namespace Go.Proofs.YtijilhbdbeajjaaGreatDoor

open Go.RowKit

/-- The leader has all that is committed. -/
def LeadT (cm : List ByteArray) (r : RepD) : Prop := cm.length ≤ r.log.base.toNat + r.log.ents.length ∧ r.log.ents.take (cm.length - r.log.base.toNat) = cm.drop r.log.base.toNat

/-- What holds of replicas, and of what is committed; no index is above n. -/
structure TownR (t : TownD) (n : Nat) : Prop where
  three : t.reps.length = 3
  lead : t.leader < 3
  reps : ∀ k, k < 3 → ∃ b i, RepT t.comm n (t.rep k) b i
  led : LeadT t.comm t.lead
  comm : firstE t.comm = 0
  few : t.comm.length ≤ n

section

variable {t : TownD} {n : Nat}

theorem must_low (t : TownD) {i : Nat} (h : i ≤ t.comm.length) : t.must i = t.comm[i - 1]? := if_pos h

theorem RepT.right_ge {r : RepD} {b i : Nat} (h : RepT t.comm n r b i) : i ≤ t.right r := by
  have hl := h.low
  have hd := h.done
  have hh := h.has
  have hs := h.same
  unfold TownD.right
  rw [h.base]
  have := agreeT_least t.must r.log.ents b (i - b) (by omega) (fun m hm => by
    rw [must_low t (by omega)]
    have e := congrArg (fun l : List ByteArray => l[m]?) hs
    simp only [List.getElem?_take, List.getElem?_drop] at e
    rw [if_pos hm, if_pos hm] at e
    rw [e]
    congr 1)
  simp only [Int.toNat_natCast]
  omega

theorem RepT.right_le {r : RepD} {b i : Nat} (h : RepT t.comm n r b i) : t.right r ≤ b + r.log.ents.length := by
  unfold TownD.right
  rw [h.base]
  exact (agreeT_facts _ _ _).2.1

theorem RepT.right_has {r : RepD} {b i : Nat} (h : RepT t.comm n r b i) {m : Nat} (h1 : b ≤ m) (h2 : m < t.right r) : ∃ x, t.must (m + 1) = some x ∧ r.log.ents[m - b]? = some x := by
  unfold TownD.right at h2
  rw [h.base] at h2
  exact (agreeT_facts _ _ _).2.2 m (by simpa using h1) h2

/-- Up to where a replica is right it has what is committed. -/
theorem RepT.right_same {r : RepD} {b i : Nat} (h : RepT t.comm n r b i) {u : Nat} (h1 : u ≤ t.right r) (h2 : u ≤ t.comm.length) : r.log.ents.take (u - b) = (t.comm.drop b).take (u - b) := by
  apply List.ext_getElem?
  intro m
  rw [List.getElem?_take, List.getElem?_take]
  by_cases hm : m < u - b
  · rw [if_pos hm, if_pos hm, List.getElem?_drop]
    obtain ⟨x, hx1, hx2⟩ := h.right_has (m := b + m) (by omega) (by omega)
    rw [must_low t (by omega)] at hx1
    rw [show b + m - b = m by omega] at hx2
    rw [hx2, ← hx1]
    congr 1
  · rw [if_neg hm, if_neg hm]

/-- The entries of the leader behind all that is committed. -/
theorem more_lead (h : TownR t n) {bl il : Nat} (hl : RepT t.comm n t.lead bl il) : ∀ d : Nat, t.comm.length + d ≤ bl + t.lead.log.ents.length → ((List.range d).filterMap fun j => t.must (t.comm.length + 1 + j)) = (t.lead.log.ents.drop (t.comm.length - bl)).take d
  | 0, _ => by simp
  | d + 1, hd => by
    have hlow := hl.low
    have hdone := hl.done
    rw [List.range_succ, List.filterMap_append, more_lead h hl d (by omega)]
    have hm : t.must (t.comm.length + 1 + d) = t.lead.log.ents[t.comm.length - bl + d]? := by
      unfold TownD.must
      rw [if_neg (by omega), hl.base, if_pos (by omega)]
      congr 1
      simp only [Int.toNat_natCast]
      omega
    have hlt : t.comm.length - bl + d < t.lead.log.ents.length := by omega
    have he : (t.lead.log.ents.drop (t.comm.length - bl))[d]? = some (t.lead.log.ents[t.comm.length - bl + d]) := by rw [List.getElem?_drop, List.getElem?_eq_getElem hlt]
    rw [List.take_add_one, he]
    simp [hm, List.getElem?_eq_getElem hlt]

/-- What is committed, told by the leader's entries. -/
theorem upto_lead (h : TownR t n) {bl il : Nat} (hl : RepT t.comm n t.lead bl il) {u : Nat} (hu : u ≤ bl + t.lead.log.ents.length) : t.upto u = t.comm ++ (t.lead.log.ents.drop (t.comm.length - bl)).take (u - t.comm.length) := by
  unfold TownD.upto
  rw [more_lead h hl _ (by have := h.led.1; rw [hl.base] at this; simp only [Int.toNat_natCast] at this; omega)]

/-- No follower is right above the leader's last entry. -/
theorem right_lead (h : TownR t n) {bl il : Nat} (hl : RepT t.comm n t.lead bl il) {r : RepD} {b i : Nat} (hr : RepT t.comm n r b i) : t.right r ≤ bl + t.lead.log.ents.length := by
  refine Classical.byContradiction fun e => ?_
  have hled := h.led.1
  rw [hl.base] at hled
  simp only [Int.toNat_natCast] at hled
  have h1 := hr.low
  have h2 := hr.done
  obtain ⟨x, hx1, -⟩ := hr.right_has (m := bl + t.lead.log.ents.length) (by omega) (by omega)
  unfold TownD.must at hx1
  rw [if_neg (by omega), hl.base] at hx1
  split at hx1
  · simp only [Int.toNat_natCast] at hx1
    rw [List.getElem?_eq_none (by omega)] at hx1
    cases hx1
  · cases hx1

/-- What can be is committed, of one replica. -/
theorem TownR.commit1 (h : TownR t n) {k : Nat} (hk : k < 3) : TownR (t.commit1 k) n ∧ (t.commit1 k).reps = t.reps ∧ (t.commit1 k).custs = t.custs ∧ (t.commit1 k).mails = t.mails ∧ (t.commit1 k).leader = t.leader ∧ (∃ x, (t.commit1 k).comm = t.comm ++ x) ∧ (k ≠ t.leader → (t.commit1 k).comm.length = max t.comm.length (t.right (t.rep k))) := by
  unfold TownD.commit1
  by_cases e : k = t.leader
  · rw [if_pos e]
    exact ⟨h, rfl, rfl, rfl, rfl, ⟨[], by simp⟩, fun h' => absurd e h'⟩
  · rw [if_neg e]
    obtain ⟨bl, il, hl⟩ := h.reps t.leader h.lead
    obtain ⟨b, i, hr⟩ := h.reps k hk
    have hl' : RepT t.comm n t.lead bl il := hl
    have hle := right_lead h hl' hr
    have hup := upto_lead h hl' hle
    have hled := h.led
    unfold LeadT at hled
    rw [hl'.base] at hled
    simp only [Int.toNat_natCast] at hled
    have hlow := hl'.low
    have hdone := hl'.done
    have hlen : (t.upto (t.right (t.rep k))).length = max t.comm.length (t.right (t.rep k)) := by
      rw [hup, List.length_append, List.length_take, List.length_drop]
      omega
    refine ⟨⟨h.three, h.lead, fun j hj => ?_, ?_, ?_, ?_⟩, rfl, rfl, rfl, rfl, ⟨_, hup⟩, fun _ => hlen⟩
    · obtain ⟨b', i', hj'⟩ := h.reps j hj
      exact ⟨b', i', by show RepT (t.upto _) n (t.rep j) b' i'; rw [hup]; exact hj'.grow _ (Nat.le_refl _)⟩
    · show LeadT (t.upto _) t.lead
      unfold LeadT
      rw [hl'.base]
      simp only [Int.toNat_natCast]
      rw [hlen]
      refine ⟨by omega, ?_⟩
      rw [hup, List.drop_append_of_le_length (by omega), ← hled.2]
      have e2 : max t.comm.length (t.right (t.rep k)) - bl = (t.comm.length - bl) + (t.right (t.rep k) - t.comm.length) := by omega
      rw [e2, List.take_add]
    · show firstE (t.upto _) = 0
      rw [hup]
      refine firstE_zero.2 fun x hx => ?_
      rcases List.mem_append.1 hx with hx | hx
      · exact firstE_zero.1 h.comm x hx
      · exact firstE_zero.1 hl'.first x (List.mem_of_mem_drop (List.mem_of_mem_take hx))
    · show (t.upto _).length ≤ n
      rw [hlen]
      have := hl'.top
      have := h.few
      omega

theorem commit_parts (h : TownR t n) : TownR t.commit n ∧ t.commit.reps = t.reps ∧ t.commit.custs = t.custs ∧ t.commit.mails = t.mails ∧ t.commit.leader = t.leader ∧ ∃ x, t.commit.comm = t.comm ++ x := by
  obtain ⟨h0, a0, b0, c0, d0, ⟨x0, e0⟩, -⟩ := h.commit1 (k := 0) (by omega)
  obtain ⟨h1, a1, b1, c1, d1, ⟨x1, e1⟩, -⟩ := h0.commit1 (k := 1) (by omega)
  obtain ⟨h2, a2, b2, c2, d2, ⟨x2, e2⟩, -⟩ := h1.commit1 (k := 2) (by omega)
  exact ⟨h2, a2.trans (a1.trans a0), b2.trans (b1.trans b0), c2.trans (c1.trans c0), d2.trans (d1.trans d0), ⟨x0 ++ x1 ++ x2, by
    show (((t.commit1 0).commit1 1).commit1 2).comm = _
    rw [e2, e1, e0]
    simp [List.append_assoc]⟩⟩

theorem TownR.mono (h : TownR t n) {n' : Nat} (hn : n ≤ n') : TownR t n' where
  three := h.three
  lead := h.lead
  reps := fun k hk => by
    obtain ⟨b, i, hr⟩ := h.reps k hk
    have := hr.grow [] hn
    rw [List.append_nil] at this
    exact ⟨b, i, this⟩
  led := h.led
  comm := h.comm
  few := Nat.le_trans h.few hn

theorem rep_set (t : TownD) {k : Nat} {r : RepD} (h3 : t.reps.length = 3) (hk : k < 3) (j : Nat) : (t.setRep k r).rep j = if j = k then r else t.rep j := by
  unfold TownD.setRep TownD.rep
  simp only [List.getD_eq_getElem?_getD, List.getElem?_set]
  by_cases e : k = j
  · subst e
    rw [if_pos rfl, if_pos rfl, if_pos (by omega)]
    rfl
  · rw [if_neg e, if_neg (fun h => e h.symm)]

/-- A replica put anew, that has what is committed if it is the leader. -/
theorem TownR.setRep (h : TownR t n) {k : Nat} (hk : k < 3) {r : RepD} {b i : Nat} (hr : RepT t.comm n r b i) (hl : k = t.leader → LeadT t.comm r) : TownR (t.setRep k r) n where
  three := by show (t.reps.set k r).length = 3; rw [List.length_set]; exact h.three
  lead := h.lead
  reps := fun j hj => by
    rw [rep_set t h.three hk]
    by_cases e : j = k
    · rw [if_pos e]; exact ⟨b, i, hr⟩
    · rw [if_neg e]; exact h.reps j hj
  led := by
    show LeadT t.comm ((t.setRep k r).rep t.leader)
    rw [rep_set t h.three hk]
    by_cases e : t.leader = k
    · rw [if_pos e]; exact hl e.symm
    · rw [if_neg e]; exact h.led
  comm := h.comm
  few := h.few

end

theorem town0_ok (m : Nat) : TownR (town0 m) 0 where
  three := rfl
  lead := by show 0 < 3; omega
  reps := fun k hk => ⟨0, 0, by
    have : (town0 m).rep k = .zero := by
      match k, hk with
      | 0, _ => rfl
      | 1, _ => rfl
      | 2, _ => rfl
    rw [this]
    exact ⟨rfl, rfl, Nat.le_refl _, Nat.le_refl _, Nat.zero_le _, Nat.le_refl _, rfl, rfl, rfl⟩⟩
  led := ⟨Nat.zero_le _, rfl⟩
  comm := rfl
  few := Nat.le_refl _

end Go.Proofs.YtijilhbdbeajjaaGreatDoor

namespace Go.Proofs.YtijilhbdbeajjaaGreatDoor

open Go.RowKit

/-- What holds of the cluster after every act. -/
structure TownG (t : TownD) (n : Nat) : Prop where
  town : TownR t n
  good : ∀ c ∈ t.custs, GoodC c
  ids : ∀ (j : Nat) (c : CustD), t.custs[j]? = some c → c.id = (j : Int) + 1

/-- What an act leaves: more may be committed. -/
structure Went (t u : TownD) (n : Nat) : Prop where
  town : TownG u n
  comm : ∃ x, u.comm = t.comm ++ x
  clients : u.custs.length = t.custs.length

theorem Went.same {t : TownD} {n : Nat} (h : TownG t n) : Went t t (n + 1) := ⟨⟨h.town.mono (Nat.le_succ n), h.good, h.ids⟩, ⟨[], by simp⟩, rfl⟩

theorem Went.of {t u : TownD} {n : Nat} (h : TownG t n) (hu : TownR u (n + 1)) (hc : ∃ x, u.comm = t.comm ++ x) (hcu : u.custs = t.custs) : Went t u (n + 1) :=
  ⟨⟨hu, by rw [hcu]; exact h.good, by rw [hcu]; exact h.ids⟩, hc, by rw [hcu]⟩

theorem hello_dec {c : CustD} (h : GoodC c) : decE (helloT c) = 0 := by
  have hx2 : (⟨1, c.id, 0, 0, 0, 0, ⟨#[]⟩, ⟨#[]⟩, 0⟩ : CmdD).err = 0 := by
    have hi := h.id
    show cmdE 1 c.id 0 0 0 0 ⟨#[]⟩ ⟨#[]⟩ 0 = 0
    unfold cmdE
    rw [if_neg (by omega), if_neg (by omega), if_neg (by omega), if_pos ⟨rfl, rfl, rfl, rfl, rfl, rfl, rfl⟩]
  exact (dec_all _ hx2).1

theorem ask_err {c : CustD} {k : Nat} {x : WaitD} (G : GoodC c) (hx : c.waits[k]? = some x) : (⟨2, c.id, c.session, x.seq, knownC c, x.kind, x.a, x.b, x.n⟩ : CmdD).err = 0 := by
  have hm := List.mem_of_getElem? hx
  obtain ⟨h1, h2, h3, h4⟩ := G.each x hm
  have hs := G.session
  have hn := G.next
  have hp : 0 < c.waits.length := List.length_pos_of_mem hm
  have he := G.held hp
  have hf := first_le G.order hm
  obtain ⟨y, hy, hye⟩ := first_mem hp
  have hy1 := (G.each y hy).1
  have hi := G.id
  have hk := known_first hp
  show cmdE 2 c.id c.session x.seq (knownC c) x.kind x.a x.b x.n = 0
  unfold cmdE
  rw [if_neg (by omega), if_neg (by omega), if_pos rfl, if_pos ⟨by omega, by omega, by omega⟩]
  exact h4

theorem ask_dec {c : CustD} {k : Int} (h : GoodC c) (hr : requestE c k = 0) : decE (askT c k.toNat) = 0 := by
  unfold requestE at hr
  rw [if_neg (by simpa using h.check)] at hr
  have hk : 0 ≤ k ∧ k ≤ (c.waits.length : Int) - 1 := Classical.byContradiction fun e => by rw [if_pos e] at hr; omega
  obtain ⟨x, hx⟩ : ∃ x, c.waits[k.toNat]? = some x := ⟨_, List.getElem?_eq_getElem (by omega)⟩
  unfold askT
  rw [hx]
  exact (dec_all _ (ask_err h hx)).1

theorem LeadT.log {cm : List ByteArray} {r r' : RepD} (h : LeadT cm r) (e : r'.log = r.log) : LeadT cm r' := by
  unfold LeadT at h ⊢
  rw [e]
  exact h

section

variable {t : TownD} {n : Nat}

theorem added_went (h : TownG t n) (hn : n < 400) {e : Int} {s : ByteArray} (hs : e = 0 → decE s = 0) : Went t (t.added e s).1 (n + 1) := by
  unfold TownD.added
  by_cases h0 : e = 0
  · rw [if_neg (by simpa using h0)]
    have hR := h.town.mono (Nat.le_succ n)
    obtain ⟨bl, il, hl⟩ := h.town.reps t.leader h.town.lead
    have hl0 : RepT t.comm n t.lead bl il := hl
    have hl1 := hl0.grow [] (Nat.le_succ n)
    rw [List.append_nil] at hl1
    have htop := hl0.top
    have hlast : lastL t.lead.log = ((bl + t.lead.log.ents.length : Nat) : Int) := by unfold lastL; rw [hl0.base]; omega
    obtain ⟨e1, e2, e3, e4, e5, e6⟩ := hl1.hear h.town.comm (by have := h.town.few; omega) (by omega) (f := bl + t.lead.log.ents.length) (l := [s]) hl0.has (Nat.le_refl _) (by unfold firstE; rw [if_neg (by simpa using hs h0)]; rfl) (by simp; omega)
    rw [hlast, if_neg (by simpa using e1)]
    refine Went.of h (hR.setRep h.town.lead e2 fun _ => ?_) ⟨[], by simp [TownD.setRep]⟩ rfl
    have hled := h.town.led
    unfold LeadT at hled ⊢
    rw [hl0.base] at hled
    rw [e2.base]
    simp only [Int.toNat_natCast] at hled ⊢
    have := hl0.low
    have := hl0.done
    refine ⟨by simp at e5; omega, ?_⟩
    have e := congrArg (List.take (t.comm.length - bl)) e3
    rw [List.take_take, List.take_take, Nat.min_eq_left (by omega)] at e
    rw [e]
    exact hled.2
  · rw [if_pos h0]
    exact Went.same h

theorem cust_at (h : TownG t n) {c : Int} (hc : 0 ≤ c ∧ c ≤ (t.custs.length : Int) - 1) : t.custs[c.toNat]? = some (t.custs.getD c.toNat .zero) ∧ GoodC (t.custs.getD c.toNat .zero) := by
  have hlt : c.toNat < t.custs.length := by omega
  have e : t.custs.getD c.toNat .zero = t.custs[c.toNat] := by simp [List.getD_eq_getElem?_getD, List.getElem?_eq_getElem hlt]
  rw [e]
  exact ⟨List.getElem?_eq_getElem hlt, h.good _ (List.getElem_mem hlt)⟩

/-- A client put anew. -/
theorem setCust_went (h : TownG t n) {k : Nat} {c c' : CustD} (hk : t.custs[k]? = some c) (hg : GoodC c') (hid : c'.id = c.id) : Went t (t.setCust k c') (n + 1) := by
  have hR := h.town.mono (Nat.le_succ n)
  have hlt := (List.getElem?_eq_some_iff.1 hk).1
  refine ⟨⟨⟨hR.three, hR.lead, hR.reps, hR.led, hR.comm, hR.few⟩, fun x hx => ?_, fun j x hx => ?_⟩, ⟨[], by simp [TownD.setCust]⟩, by simp [TownD.setCust]⟩
  · have hx' : x ∈ t.custs.set k c' := hx
    rcases List.mem_or_eq_of_mem_set hx' with hx' | rfl
    · exact h.good x hx'
    · exact hg
  · have hx' : (t.custs.set k c')[j]? = some x := hx
    rw [List.getElem?_set] at hx'
    by_cases e : k = j
    · subst e
      rw [if_pos rfl, if_pos hlt] at hx'
      simp only [Option.some.injEq] at hx'
      subst hx'
      rw [hid]
      exact h.ids k c hk
    · rw [if_neg e] at hx'
      exact h.ids j x hx'

theorem client_went (h : TownG t n) (hn : n < 400) (a : ActD) : Went t (t.client a).1 (n + 1) := by
  unfold TownD.client
  by_cases hc : 0 ≤ a.c ∧ a.c ≤ (t.custs.length : Int) - 1
  · rw [if_neg (fun e => e hc)]
    obtain ⟨hat, hg⟩ := cust_at h hc
    simp only
    by_cases k1 : a.kind = 1
    · rw [if_pos k1]
      exact added_went h hn fun _ => hello_dec hg
    · rw [if_neg k1]
      by_cases k3 : a.kind = 3
      · rw [if_pos k3]
        exact added_went h hn fun e => ask_dec hg e
      · rw [if_neg k3]
        by_cases hs : startE (t.custs.getD a.c.toNat .zero) a.ok a.oa a.ob a.on = 0
        · rw [if_neg (by simpa using hs)]
          exact setCust_went h hat (GoodC.started hs) rfl
        · rw [if_pos hs]
          exact Went.same h
  · rw [if_pos hc]
    exact Went.same h

/-- A replica put anew, and what can be committed. -/
theorem set_commit (h : TownG t n) {k : Nat} {r : RepD} (hs : TownR (t.setRep k r) (n + 1)) : Went t (t.setRep k r).commit (n + 1) := by
  obtain ⟨h1, h2, h3, h4, h5, ⟨x, h6⟩⟩ := commit_parts hs
  exact Went.of h h1 ⟨x, h6⟩ h3

theorem ship_went (h : TownG t n) (hn : n < 400) {k : Nat} (hk : k < 3) (many : Int) : Went t (t.ship k many).1 (n + 1) := by
  unfold TownD.ship
  by_cases h0 : k = t.leader ∨ many < 0
  · rw [if_pos h0]
    exact Went.same h
  · rw [if_neg h0]
    have hne : k ≠ t.leader := fun e => h0 (.inl e)
    have hm0 : 0 ≤ many := by
      have : ¬ many < 0 := fun e => h0 (.inr e)
      omega
    have hR := h.town.mono (Nat.le_succ n)
    have hfew := h.town.few
    obtain ⟨bl, il, hl⟩ := h.town.reps t.leader h.town.lead
    have hl0 : RepT t.comm n t.lead bl il := hl
    obtain ⟨b, i, hr⟩ := h.town.reps k hk
    have hr1 := hr.grow [] (Nat.le_succ n)
    rw [List.append_nil] at hr1
    have hge := hr.right_ge
    have hle := hr.right_le
    have hll := right_lead h.town hl0 hr
    have hlb := hl0.low
    have hld := hl0.done
    have hlt := hl0.top
    obtain ⟨g1, -, -, -⟩ := repE_zero (hl0.good h.town.comm (by omega) (by omega))
    by_cases hb : (t.right (t.rep k) : Int) < t.lead.log.base
    · rw [if_pos hb]
      rw [hl0.base] at hb
      obtain ⟨e1, e2, -⟩ := hr1.install h.town.comm (by omega) (by omega) (B := bl) (by omega) (by omega) (by omega)
      rw [hl0.snap, if_neg (by simpa using e1)]
      exact set_commit h (hR.setRep hk e2 fun e => absurd e hne)
    · rw [if_neg hb]
      rw [hl0.base] at hb
      have hbe : behindE t.lead.log (t.right (t.rep k)) many = 0 := by
        unfold behindE
        rw [g1, if_neg (by simp), hl0.base, if_neg (by omega)]
      have hbl : behindL t.lead.log (t.right (t.rep k)) many = (t.lead.log.ents.drop (t.right (t.rep k) - bl)).take many.toNat := by
        unfold behindL
        rw [if_pos hbe, hl0.base]
        congr 2
        omega
      obtain ⟨e1, e2, -⟩ := hr1.hear h.town.comm (by omega) (by omega) (f := t.right (t.rep k)) (l := (t.lead.log.ents.drop (t.right (t.rep k) - bl)).take many.toNat) hge hle (firstE_sub hl0.first ((List.take_sublist _ _).trans (List.drop_sublist _ _))) (by rw [List.length_take, List.length_drop]; omega)
      rw [if_neg (by simpa using hbe), hbl, if_neg (by simpa using e1)]
      exact set_commit h (hR.setRep hk e2 fun e => absurd e hne)

/-- How far a replica may go. -/
theorem may_facts (h : TownR t n) {k : Nat} (_hk : k < 3) {many : Int} (hm : 0 ≤ many) {b i : Nat} (hr : RepT t.comm n (t.rep k) b i) (hn : n ≤ 400) : t.may k many = ((min (min (i + min many.toNat 400) t.comm.length) (t.right (t.rep k)) : Nat) : Int) := by
  have hst : (t.rep k).state.index = (i : Int) := by rw [hr.state]; exact (upS_goodN h.comm (by have := h.few; omega) hr.done).2
  unfold TownD.may
  rw [hst]
  omega

theorem apply_parts (h : TownR t n) (hn : n ≤ 400) {k : Nat} (hk : k < 3) {many : Int} (hm : 0 ≤ many) {b i : Nat} (hr : RepT t.comm n (t.rep k) b i) :
    goE (t.rep k) (t.may k many) = 0 ∧ RepT t.comm n (goL (t.rep k) (t.may k many)) b (max i (min (min (i + min many.toNat 400) t.comm.length) (t.right (t.rep k)))) ∧ (goL (t.rep k) (t.may k many)).log = (t.rep k).log ∧ todoL (t.rep k) (t.may k many) = (t.comm.drop i).take (min (min (i + min many.toNat 400) t.comm.length) (t.right (t.rep k)) - i) := by
  have hfew := h.few
  rw [may_facts h hk hm hr hn]
  have hle := hr.right_le
  obtain ⟨e1, e2, e3, -, e5⟩ := hr.apply h.comm (by omega) (by omega) (u := ((min (min (i + min many.toNat 400) t.comm.length) (t.right (t.rep k)) : Nat) : Int)) (by omega) (by omega) (by omega) (hr.right_same (by simp only [Int.toNat_natCast]; omega) (by simp only [Int.toNat_natCast]; omega))
  simp only [Int.toNat_natCast] at e2 e5
  exact ⟨e1, e2, e3, e5⟩

theorem apply_went (h : TownG t n) (hn : n < 400) {k : Nat} (hk : k < 3) (many : Int) : Went t (t.apply k many).1 (n + 1) := by
  unfold TownD.apply
  by_cases hm : many < 0
  · rw [if_pos hm]
    exact Went.same h
  · rw [if_neg hm]
    have hR := h.town.mono (Nat.le_succ n)
    obtain ⟨b, i, hr⟩ := hR.reps k hk
    obtain ⟨e1, e2, e3, -⟩ := apply_parts hR (by omega) hk (many := many) (by omega) hr
    rw [if_neg (by simpa using e1)]
    have hS := hR.setRep hk e2 fun e => by subst e; exact h.town.led.log e3
    exact Went.of h ⟨hS.three, hS.lead, hS.reps, hS.led, hS.comm, hS.few⟩ ⟨[], by simp [TownD.setRep]⟩ rfl

theorem lead_ok (h : TownR t n) {k : Nat} (hk : k < 3) (hr : ¬ t.right (t.rep k) < t.comm.length) : TownR { t with leader := k } n := by
  obtain ⟨b, i, hk'⟩ := h.reps k hk
  refine ⟨h.three, hk, h.reps, ?_, h.comm, h.few⟩
  show LeadT t.comm (t.rep k)
  unfold LeadT
  rw [hk'.base]
  simp only [Int.toNat_natCast]
  have h1 := hk'.right_le
  have h2 := hk'.right_same (u := t.comm.length) (by omega) (Nat.le_refl _)
  refine ⟨by omega, ?_⟩
  rw [h2, List.take_of_length_le (by rw [List.length_drop]; exact Nat.le_refl _)]

theorem compact_led {cm : List ByteArray} {r r' : RepD} {b i n : Nat} (hr : RepT cm n r b i) (hr' : RepT cm n r' i i) (he : r'.log.ents = r.log.ents.drop (i - b)) (hl : LeadT cm r) : LeadT cm r' := by
  have h1 := hr.low
  have h2 := hr.done
  have h3 := hr.has
  unfold LeadT at hl ⊢
  rw [hr.base] at hl
  rw [hr'.base, he]
  simp only [Int.toNat_natCast] at hl ⊢
  rw [List.length_drop]
  refine ⟨by omega, ?_⟩
  have e := congrArg (List.drop (i - b)) hl.2
  rw [List.drop_take, List.drop_drop, show b + (i - b) = i by omega, show cm.length - b - (i - b) = cm.length - i by omega] at e
  exact e

theorem replica_went (h : TownG t n) (hn : n < 400) (a : ActD) : Went t (t.replica a).1 (n + 1) := by
  unfold TownD.replica
  by_cases hr : 0 ≤ a.r ∧ a.r ≤ 2
  · rw [if_neg (fun e => e hr)]
    have hk : a.r.toNat < 3 := by omega
    have hR := h.town.mono (Nat.le_succ n)
    obtain ⟨b, i, hi⟩ := hR.reps a.r.toNat hk
    have hfew := h.town.few
    by_cases k4 : a.kind = 4
    · rw [if_pos k4]; exact ship_went h hn hk _
    · rw [if_neg k4]
      by_cases k8 : a.kind = 8
      · rw [if_pos k8]
        by_cases hrt : t.right (t.rep a.r.toNat) < t.comm.length
        · rw [if_pos hrt]; exact Went.same h
        · rw [if_neg hrt]
          obtain ⟨h1, h2, h3, h4, h5, ⟨x, h6⟩⟩ := commit_parts (lead_ok hR hk hrt)
          exact Went.of h h1 ⟨x, h6⟩ h3
      · rw [if_neg k8]
        by_cases k5 : a.kind = 5
        · rw [if_pos k5]; exact apply_went h hn hk _
        · rw [if_neg k5]
          by_cases k6 : a.kind = 6
          · rw [if_pos k6]
            obtain ⟨c1, c2⟩ := hi.compact hR.comm (by omega) (by omega)
            by_cases e : i = b
            · rw [if_pos (by rw [c1 e]; decide)]
              exact Went.same h
            · obtain ⟨d1, d2, d3⟩ := c2 e
              rw [if_neg (by simpa using d1)]
              exact Went.of h (hR.setRep hk d2 fun e' => by
                have hl := h.town.led
                unfold TownD.lead at hl
                rw [← e'] at hl
                exact compact_led hi d2 d3 hl) ⟨[], by simp [TownD.setRep]⟩ rfl
          · rw [if_neg k6, if_neg (by simpa using hi.good hR.comm (by omega) (by omega))]
            obtain ⟨d1, d2⟩ := hi.restart hR.comm (by omega) (by omega)
            exact Went.of h (hR.setRep hk d1 fun e' => by
              have hl := h.town.led
              unfold TownD.lead at hl
              rw [← e'] at hl
              exact hl.log d2) ⟨[], by simp [TownD.setRep]⟩ rfl
  · rw [if_pos hr]
    exact Went.same h

theorem deliver_went (h : TownG t n) (m : MailD) : Went t (t.deliver m).1 (n + 1) := by
  unfold TownD.deliver
  by_cases hi : t.custs.findIdx (fun c => c.id == m.client) < t.custs.length
  · rw [if_pos hi]
    simp only
    obtain ⟨hat, hg⟩ := cust_at h (c := (t.custs.findIdx (fun c => c.id == m.client) : Int)) (by omega)
    simp only [Int.toNat_natCast] at hat hg
    by_cases he : chearE (t.custs.getD (t.custs.findIdx (fun c => c.id == m.client)) .zero) m.client m.seq m.reply.code m.reply.n = 0
    · rw [if_neg (by simpa using he)]
      refine setCust_went h hat (GoodC.heard he) ?_
      unfold chearL
      split
      · split <;> rfl
      · split <;> rfl
    · rw [if_pos he]
      exact Went.same h
  · rw [if_neg hi]
    exact Went.same h

theorem mails_any (h : TownG t n) (ms : List MailD) : TownG { t with mails := ms } n := ⟨⟨h.town.three, h.town.lead, h.town.reps, h.town.led, h.town.comm, h.town.few⟩, h.good, h.ids⟩

theorem mailed_went (h : TownG t n) (a : ActD) : Went t (t.mailed a).1 (n + 1) := by
  have key : ∀ ms : List MailD, Went t { t with mails := ms } (n + 1) := fun ms => by
    have := Went.same (mails_any h ms)
    exact ⟨this.town, this.comm, this.clients⟩
  unfold TownD.mailed
  by_cases hk : 0 ≤ a.k ∧ a.k ≤ (t.mails.length : Int) - 1
  · rw [if_neg (fun e => e hk)]
    simp only
    by_cases k11 : a.kind = 11
    · rw [if_pos k11]
      by_cases h60 : 60 ≤ t.mails.length
      · rw [if_pos h60]; exact Went.same h
      · rw [if_neg h60]; exact key _
    · rw [if_neg k11]
      by_cases k10 : a.kind = 10
      · rw [if_pos k10]; exact key _
      · rw [if_neg k10]
        have := deliver_went (mails_any h (t.mails.eraseIdx a.k.toNat)) (t.mails.getD a.k.toNat ⟨0, 0, ⟨0, 0, ⟨#[]⟩⟩⟩)
        exact ⟨this.town, this.comm, this.clients⟩
  · rw [if_pos hk]
    exact Went.same h

/-- Every act. -/
theorem step_went (h : TownG t n) (hn : n < 400) (a : ActD) : Went t (t.step a).1 (n + 1) := by
  unfold TownD.step
  by_cases h1 : 1 ≤ a.kind ∧ a.kind ≤ 3
  · rw [if_pos h1]; exact client_went h hn a
  · rw [if_neg h1]
    by_cases h2 : 4 ≤ a.kind ∧ a.kind ≤ 8
    · rw [if_pos h2]; exact replica_went h hn a
    · rw [if_neg h2]
      by_cases h3 : 9 ≤ a.kind ∧ a.kind ≤ 11
      · rw [if_pos h3]; exact mailed_went h a
      · rw [if_neg h3]; exact Went.same h

end

/-- All acts. -/
theorem run_went {n : Nat} : ∀ (l : List ActD) {t : TownD}, TownG t n → n + l.length ≤ 400 → Went t (t.run l).1 (n + l.length)
  | [], t, h, _ => ⟨h, ⟨[], by simp [TownD.run]⟩, rfl⟩
  | a :: r, t, h, hl => by
    simp only [List.length_cons] at hl
    have h1 := step_went h (by omega) a
    have h2 := run_went (n := n + 1) r h1.town (by omega)
    obtain ⟨x, hx⟩ := h1.comm
    obtain ⟨y, hy⟩ := h2.comm
    have e : n + (a :: r).length = n + 1 + r.length := by simp only [List.length_cons]; omega
    rw [e]
    exact ⟨h2.town, ⟨x ++ y, by show ((t.step a).1.run r).1.comm = _; rw [hy, hx, List.append_assoc]⟩, h2.clients.trans h1.clients⟩

theorem town0_good {m : Nat} (hm : m ≤ 9) : TownG (town0 m) 0 where
  town := town0_ok m
  good := fun c hc => by
    obtain ⟨j, hj, rfl⟩ := List.mem_map.1 hc
    have := List.mem_range.1 hj
    exact new_good (by omega)
  ids := fun j c hj => by
    have hj' : ((List.range m).map fun (j : Nat) => (⟨(j : Int) + 1, 0, 1, []⟩ : CustD))[j]? = some c := hj
    rw [List.getElem?_map] at hj'
    obtain ⟨k, hk, rfl⟩ := Option.map_eq_some_iff.1 hj'
    rw [List.getElem?_range (by have := (List.getElem?_eq_some_iff.1 hk).1; simpa using this)] at hk
    simp only [Option.some.injEq] at hk
    subst hk
    rfl

/-- A script, from its beginning on. -/
theorem script_went {m : Nat} (hm : m ≤ 9) {l : List ActD} (hl : l.length ≤ 400) : Went (town0 m) ((town0 m).run l).1 l.length := by
  have := run_went l (town0_good hm) (by omega)
  simpa using this

end Go.Proofs.YtijilhbdbeajjaaGreatDoor

namespace Go.Proofs.YtijilhbdbeajjaaGreatDoor

open Go.RowKit

theorem must_high (t : TownD) {i bl : Nat} (h : t.comm.length < i) (hb : t.lead.log.base = (bl : Int)) (hi : bl < i) : t.must i = t.lead.log.ents[i - 1 - bl]? := by
  unfold TownD.must
  rw [if_neg (by omega), hb, if_pos (by omega)]
  simp

section

variable {t : TownD} {n : Nat}

/-- What an entry must be does not turn when more is committed. -/
theorem must_commit1 (h : TownR t n) {k : Nat} (hk : k < 3) {i : Nat} (hi : 1 ≤ i) : (t.commit1 k).must i = t.must i := by
  obtain ⟨bl, il, hl⟩ := h.reps t.leader h.lead
  have hl0 : RepT t.comm n t.lead bl il := hl
  have hlow := hl0.low
  have hdone := hl0.done
  have hled := h.led.1
  rw [hl0.base] at hled
  simp only [Int.toNat_natCast] at hled
  unfold TownD.commit1
  by_cases e : k = t.leader
  · rw [if_pos e]
  · rw [if_neg e]
    obtain ⟨b, j, hr⟩ := h.reps k hk
    have hll := right_lead h hl0 hr
    have hup := upto_lead h hl0 hll
    have hlen : (t.upto (t.right (t.rep k))).length = max t.comm.length (t.right (t.rep k)) := by
      rw [hup, List.length_append, List.length_take, List.length_drop]
      omega
    obtain ⟨u, hu⟩ : ∃ u : TownD, u = { t with comm := t.upto (t.right (t.rep k)) } := ⟨_, rfl⟩
    have huc : u.comm = t.upto (t.right (t.rep k)) := by rw [hu]
    have hul : u.lead.log = t.lead.log := by rw [hu]; rfl
    rw [← hu]
    by_cases h1 : i ≤ t.comm.length
    · rw [must_low t h1, must_low u (by rw [huc, hlen]; omega), huc, hup, List.getElem?_append_left (by omega)]
    · rw [must_high t (by omega) hl0.base (by omega)]
      by_cases h2 : i ≤ u.comm.length
      · have h2' := h2
        rw [huc, hlen] at h2'
        rw [must_low u h2, huc, hup, List.getElem?_append_right (by omega), List.getElem?_take, if_pos (by omega), List.getElem?_drop]
        congr 1
        omega
      · rw [must_high u (by omega) (by rw [hul]; exact hl0.base) (by omega), hul]

theorem agreeT_congr {f g : Nat → Option ByteArray} (hfg : ∀ i, 1 ≤ i → f i = g i) : ∀ (l : List ByteArray) (i : Nat), agreeT f i l = agreeT g i l
  | [], _ => rfl
  | x :: r, i => by
    unfold agreeT
    rw [hfg (i + 1) (by omega), agreeT_congr hfg r (i + 1)]

theorem must_commit (h : TownR t n) {i : Nat} (hi : 1 ≤ i) : t.commit.must i = t.must i := by
  obtain ⟨h0, -⟩ := h.commit1 (k := 0) (by omega)
  obtain ⟨h1, -⟩ := h0.commit1 (k := 1) (by omega)
  show (((t.commit1 0).commit1 1).commit1 2).must i = _
  rw [must_commit1 h1 (by omega) hi, must_commit1 h0 (by omega) hi, must_commit1 h (by omega) hi]

theorem right_commit (h : TownR t n) (r : RepD) : t.commit.right r = t.right r := agreeT_congr (fun _ hi => must_commit h hi) _ _

/-- Behind a commit all is committed up to which a follower is right. -/
theorem commit_len (h : TownR t n) {k : Nat} (hk : k < 3) (hl : k ≠ t.leader) : t.right (t.rep k) ≤ t.commit.comm.length := by
  obtain ⟨h0, a0, -, -, d0, ⟨x0, e0⟩, f0⟩ := h.commit1 (k := 0) (by omega)
  obtain ⟨h1, a1, -, -, d1, ⟨x1, e1⟩, f1⟩ := h0.commit1 (k := 1) (by omega)
  obtain ⟨h2, a2, -, -, d2, ⟨x2, e2⟩, f2⟩ := h1.commit1 (k := 2) (by omega)
  have r1 : (t.commit1 0).right ((t.commit1 0).rep k) = t.right (t.rep k) := by
    unfold TownD.rep
    rw [a0]
    exact agreeT_congr (fun _ hi => must_commit1 h (by omega) hi) _ _
  have r2 : ((t.commit1 0).commit1 1).right (((t.commit1 0).commit1 1).rep k) = t.right (t.rep k) := by
    rw [← r1]
    unfold TownD.rep
    rw [a1]
    exact agreeT_congr (fun _ hi => must_commit1 h0 (by omega) hi) _ _
  show _ ≤ (((t.commit1 0).commit1 1).commit1 2).comm.length
  match k, hk with
  | 0, _ =>
    have := f0 hl
    rw [e2, e1, List.length_append, List.length_append]
    omega
  | 1, _ =>
    have := f1 (by rw [d0]; exact hl)
    rw [r1] at this
    rw [e2, List.length_append]
    omega
  | 2, _ =>
    have := f2 (by rw [d1, d0]; exact hl)
    rw [r2] at this
    omega

/-- A replica and what it was made of: how far another one is right hangs on the leader's log and what is committed alone. -/
theorem right_set {k : Nat} {r : RepD} (h : TownR t n) (hk : k < 3) (hl : k ≠ t.leader) (x : RepD) : (t.setRep k r).right x = t.right x := by
  have hlead : (t.setRep k r).lead = t.lead := by
    show (t.setRep k r).rep t.leader = t.rep t.leader
    rw [rep_set t h.three hk, if_neg (fun e => hl e.symm)]
  unfold TownD.right
  refine agreeT_congr (fun i _ => ?_) _ _
  unfold TownD.must
  rw [hlead]
  rfl

end

end Go.Proofs.YtijilhbdbeajjaaGreatDoor

namespace Go.Proofs.YtijilhbdbeajjaaGreatDoor

open Go.RowKit

section

variable {t : TownD} {n : Nat}

/-- The leader's first and last index. -/
def TownD.first (t : TownD) : Nat := t.lead.log.base.toNat

def TownD.last (t : TownD) : Nat := t.lead.log.base.toNat + t.lead.log.ents.length

/-- Told all from where it is right on, a follower is right up to the leader's last entry. -/
theorem hear_all (h : TownR t n) {bl il : Nat} (hl : RepT t.comm n t.lead bl il) {r r' : RepD} {b i : Nat} (hr : RepT t.comm n r b i) (hb : bl ≤ t.right r) (hr' : RepT t.comm n r' b i) (e3 : r'.log.ents.take (t.right r - b) = r.log.ents.take (t.right r - b)) (e4 : (r'.log.ents.drop (t.right r - b)).take (t.lead.log.ents.drop (t.right r - bl)).length = t.lead.log.ents.drop (t.right r - bl)) (e5 : t.right r + (t.lead.log.ents.drop (t.right r - bl)).length ≤ b + r'.log.ents.length) : t.right r' = bl + t.lead.log.ents.length := by
  have hll := right_lead h hl hr
  have hup := right_lead h hl hr'
  have hlow := hl.low
  have hdone := hl.done
  have hge := hr.right_ge
  have hrl := hr.low
  have hled := h.led
  unfold LeadT at hled
  rw [hl.base] at hled
  simp only [Int.toNat_natCast] at hled
  rw [List.length_drop] at e5
  have h2 : b + (bl + t.lead.log.ents.length - b) ≤ t.right r' := by
    conv => rhs; unfold TownD.right
    rw [hr'.base]
    simp only [Int.toNat_natCast]
    refine agreeT_least t.must _ _ _ (by omega) fun m hm => ?_
    by_cases hmf : b + m < t.right r
    · obtain ⟨x, hx1, hx2⟩ := hr.right_has (m := b + m) (by omega) hmf
      rw [show b + m - b = m by omega] at hx2
      have e := congrArg (fun l : List ByteArray => l[m]?) e3
      simp only [List.getElem?_take] at e
      rw [if_pos (by omega), if_pos (by omega)] at e
      rw [hx1, e, hx2]
    · have e := congrArg (fun l : List ByteArray => l[b + m - t.right r]?) e4
      simp only [List.getElem?_take, List.getElem?_drop, List.length_drop] at e
      rw [if_pos (by omega), show t.right r - b + (b + m - t.right r) = m by omega] at e
      rw [e]
      by_cases hc : b + m + 1 ≤ t.comm.length
      · rw [must_low t hc]
        have e' := congrArg (fun l : List ByteArray => l[b + m - bl]?) hled.2
        simp only [List.getElem?_take, List.getElem?_drop] at e'
        rw [if_pos (by omega)] at e'
        rw [show t.right r - bl + (b + m - t.right r) = b + m - bl by omega, e']
        congr 1
        omega
      · rw [must_high t (by omega) hl.base (by omega)]
        congr 1
        omega
  omega

/-- One replica is told all. -/
theorem ship_all (h : TownG t n) (hn : n < 400) {k : Nat} (hk : k < 3) :
    (t.ship k 400).1.leader = t.leader ∧ (t.ship k 400).1.lead.log = t.lead.log ∧ (∀ j, j < 3 → j ≠ k → (t.ship k 400).1.rep j = t.rep j) ∧ (∀ x, (t.ship k 400).1.right x = t.right x) ∧ t.comm.length ≤ (t.ship k 400).1.comm.length ∧ (k = t.leader → (t.ship k 400).1 = t) ∧
      (k ≠ t.leader → t.first ≤ t.right ((t.ship k 400).1.rep k) ∧ (t.first ≤ t.right (t.rep k) → t.right ((t.ship k 400).1.rep k) = t.last ∧ (t.ship k 400).1.comm.length = t.last)) := by
  by_cases hkl : k = t.leader
  · have e : (t.ship k 400).1 = t := by unfold TownD.ship; rw [if_pos (.inl hkl)]
    rw [e]
    exact ⟨rfl, rfl, fun _ _ _ => rfl, fun _ => rfl, Nat.le_refl _, fun _ => rfl, fun h' => absurd hkl h'⟩
  · have hR := h.town.mono (Nat.le_succ n)
    have hfew := h.town.few
    obtain ⟨bl, il, hl⟩ := h.town.reps t.leader h.town.lead
    have hl0 : RepT t.comm n t.lead bl il := hl
    have hl1 := hl0.grow [] (Nat.le_succ n)
    rw [List.append_nil] at hl1
    obtain ⟨b, i, hr⟩ := h.town.reps k hk
    have hr1 := hr.grow [] (Nat.le_succ n)
    rw [List.append_nil] at hr1
    have hge := hr.right_ge
    have hle := hr.right_le
    have hll := right_lead h.town hl0 hr
    have hlb := hl0.low
    have hld := hl0.done
    have hlt := hl0.top
    obtain ⟨g1, -, -, -⟩ := repE_zero (hl0.good h.town.comm (by omega) (by omega))
    have hfirst : t.first = bl := by unfold TownD.first; rw [hl0.base]; simp
    have hlast : t.last = bl + t.lead.log.ents.length := by unfold TownD.last; rw [hl0.base]; simp
    -- what a commit behind a replica that is put anew leaves
    have key : ∀ (r' : RepD), TownR (t.setRep k r') (n + 1) → ((t.setRep k r').commit.leader = t.leader ∧ (t.setRep k r').commit.lead.log = t.lead.log ∧ (∀ j, j < 3 → j ≠ k → (t.setRep k r').commit.rep j = t.rep j) ∧ (∀ x, (t.setRep k r').commit.right x = t.right x) ∧ t.comm.length ≤ (t.setRep k r').commit.comm.length ∧ (t.setRep k r').commit.rep k = r' ∧ t.right r' ≤ (t.setRep k r').commit.comm.length ∧ (t.setRep k r').commit.comm.length ≤ t.last) := fun r' hW => by
      obtain ⟨c1, c2, -, -, c5, ⟨x, c6⟩⟩ := commit_parts hW
      have hrep : ∀ j, (t.setRep k r').commit.rep j = (t.setRep k r').rep j := fun j => by unfold TownD.rep; rw [c2]
      have hlead : (t.setRep k r').commit.lead = t.lead := by
        show (t.setRep k r').commit.rep (t.setRep k r').commit.leader = _
        rw [c5, hrep]
        show (t.setRep k r').rep t.leader = t.rep t.leader
        rw [rep_set t h.town.three hk, if_neg (fun e => hkl e.symm)]
      have hright : ∀ x, (t.setRep k r').commit.right x = t.right x := fun x => (right_commit hW x).trans (right_set h.town hk hkl x)
      have hk' : (t.setRep k r').rep k = r' := by rw [rep_set t h.town.three hk, if_pos rfl]
      refine ⟨c5, by rw [hlead], fun j hj hjk => by rw [hrep, rep_set t h.town.three hk, if_neg hjk], hright, by rw [c6]; show _ ≤ (t.comm ++ x).length; rw [List.length_append]; omega, by rw [hrep, hk'], ?_, ?_⟩
      · have := commit_len hW hk hkl
        rw [hk', right_set h.town hk hkl] at this
        exact this
      · have := c1.led.1
        rw [hlead, hl0.base] at this
        rw [hlast]
        simpa using this
    unfold TownD.ship
    rw [if_neg (fun e => e.elim hkl (fun e => by omega))]
    by_cases hb : (t.right (t.rep k) : Int) < t.lead.log.base
    · rw [if_pos hb]
      rw [hl0.base] at hb
      obtain ⟨e1, e2, -⟩ := hr1.install h.town.comm (by omega) (by omega) (B := bl) (by omega) (by omega) (by omega)
      rw [hl0.snap, if_neg (by simpa using e1)]
      have hW := hR.setRep hk e2 fun e => absurd e hkl
      obtain ⟨k1, k2, k3, k4, k5, k6, k7, k8⟩ := key _ hW
      refine ⟨k1, k2, k3, k4, k5, fun e => absurd e hkl, fun _ => ⟨?_, fun e => ?_⟩⟩
      · rw [k6, hfirst]
        exact e2.right_ge
      · rw [hfirst] at e
        omega
    · rw [if_neg hb]
      rw [hl0.base] at hb
      have hbe : behindE t.lead.log (t.right (t.rep k)) 400 = 0 := by
        unfold behindE
        rw [g1, if_neg (by simp), hl0.base, if_neg (by omega)]
      have hbl : behindL t.lead.log (t.right (t.rep k)) 400 = t.lead.log.ents.drop (t.right (t.rep k) - bl) := by
        unfold behindL
        rw [if_pos hbe, hl0.base]
        rw [show ((t.right (t.rep k) : Int) - (bl : Int)).toNat = t.right (t.rep k) - bl by omega, List.take_of_length_le]
        rw [List.length_drop]
        show _ ≤ 400
        omega
      obtain ⟨e1, e2, e3, e4, e5, -⟩ := hr1.hear h.town.comm (by omega) (by omega) (f := t.right (t.rep k)) (l := t.lead.log.ents.drop (t.right (t.rep k) - bl)) hge hle (firstE_sub hl0.first (List.drop_sublist _ _)) (by rw [List.length_drop]; omega)
      rw [if_neg (by simpa using hbe), hbl, if_neg (by simpa using e1)]
      have hW := hR.setRep hk e2 fun e => absurd e hkl
      obtain ⟨k1, k2, k3, k4, k5, k6, k7, k8⟩ := key _ hW
      have hall := hear_all hR hl1 hr1 (by omega) e2 e3 e4 e5
      refine ⟨k1, k2, k3, k4, k5, fun e => absurd e hkl, fun _ => ⟨?_, fun _ => ⟨?_, ?_⟩⟩⟩
      · rw [k6, hall, hfirst]
        omega
      · rw [k6, hall, hlast]
      · exact Nat.le_antisymm k8 (by rw [hlast, ← hall]; exact k7)

end

end Go.Proofs.YtijilhbdbeajjaaGreatDoor
