/- replica.Copy: the same replica (joined by program) -/
import Derived.Deep.RegionWith
import Derived.Deep.RegionHeld3
import Derived.Test.YtbmfahgekcnkaaiRC08
import Derived.Test.YtbmfahgekcnkaaiRC14
import Derived.Test.YtbmfahgekcnkaaiRC22
import Derived.Test.YtbmfahgekcnkaaiRC12
import Derived.Test.YtbmfahgekcnkaaiRC24
namespace Go.Proofs.Ytbmfahgekcnkaai

open Go.RowKit

theorem logCopy_newR (v : Value) (l : LogD) (w : World) (B : Nat) (hv : LogR w B v l) (hB : B ≤ w.heap.size) :
    Calls Try.prog 27 #[v] w fun e w' => ∃ vo vc, e = .returned (.agg #[.int .i64 l.base, .slice vo l.ents.length vc]) ∧ NewR (w.heap.size + 1) w' (fun u => TextsR u u.heap.size (.slice vo l.ents.length vc) l.ents) ∧ Below w.heap.size w w' := by
  obtain ⟨ev, -, ht⟩ := id hv
  refine (logCopy_own v l w B hv hB).mono ?_
  rintro e w' ⟨vo, vc, rfl, hown, hb⟩
  exact ⟨vo, vc, rfl, row_new hown ht.sizes ht.len, hb⟩

set_option maxRecDepth 100000 in
set_option maxHeartbeats 1600000 in
theorem repCopy_reads (v : Value) (r : RepD) (w : World) (B : Nat) (hv : RepR w B v r) (hB : B ≤ w.heap.size) :
    Calls Try.prog 15 #[v] w fun e w' => ∃ v', e = .returned v' ∧ RepR w' w'.heap.size v' r ∧ Below w.heap.size w w' := by
  obtain ⟨eo, lo, po, so, ec, ln, lc, pn, pc, sn, sc, rfl, hl, hs, hst⟩ := hv.parts
  obtain ⟨⟨base, ts⟩, sp, s⟩ := r
  simp only at hl hs hst ⊢
  obtain ⟨ix, hix⟩ : ∃ ix, ix = s.index := ⟨_, rfl⟩
  obtain ⟨n, hn⟩ : ∃ n, n = ts.length := ⟨_, rfl⟩
  have HZ : Hid (Below w.heap.size w ((w.alloc (.cells #[.int .i64 base, .slice eo n ec, .string sp, .int .i64 ix, .slice lo ln lc, .slice po pn pc, .slice so sn sc] 40)).alloc (.cells #[.int .i64 0, .slice none 0 0, .string ⟨#[]⟩, .int .i64 0, .slice none 0 0, .slice none 0 0, .slice none 0 0] 40)).drew) := (((Below.refl _ _).alloc (Nat.le_refl _) _).alloc (by simp) _).drew
  have CL := ghid (fun u (hu : Below w.heap.size w u) => logCopy_newR _ ⟨base, ts⟩ u B (hl.below hu hB) (by have := hu.size; omega))
  have CM := ghid (fun u (hu : Below w.heap.size w u) => machCopy_new _ s u B (hst.below hu hB) (by have := hu.size; omega))
  have CS := ghid (fun u => clone_any sp u (by omega))
  have HS := ghid hs
  simp only at CL
  rw [← hn] at CL ⊢
  rw [← hix] at CM ⊢
  have HN := ghid hn
  have HI := ghid hix
  obtain ⟨hr0, hx0⟩ := two_new (w := w) (A := .cells #[.int .i64 base, .slice eo n ec, .string sp, .int .i64 ix, .slice lo ln lc, .slice po pn pc, .slice so sn sc] 40) (R := .cells #[.int .i64 0, .slice none 0 0, .string ⟨#[]⟩, .int .i64 0, .slice none 0 0, .slice none 0 0, .slice none 0 0] 40) (Below.refl _ _)
  have HX0 := ghid hx0
  have HR0 := ghid hr0
  have HZS : Hid (((w.alloc (.cells #[.int .i64 base, .slice eo n ec, .string sp, .int .i64 ix, .slice lo ln lc, .slice po pn pc, .slice so sn sc] 40)).alloc (.cells #[.int .i64 0, .slice none 0 0, .string ⟨#[]⟩, .int .i64 0, .slice none 0 0, .slice none 0 0, .slice none 0 0] 40)).drew.heap.size = w.heap.size + 2) := by unfold Hid; simp
  clear hl hs hst hv hn hix hx0 hr0
  go_enter Try.func15, Try.ntmps15
  go_wp2_with fail
  go_region_held3 (fun w' => w'.cell? ⟨w.heap.size, 0, none⟩ = some (.int .i64 base) ∧ w'.cell? ⟨w.heap.size, 1, none⟩ = some (.slice eo n ec) ∧ w'.cell? ⟨w.heap.size, 2, none⟩ = some (.string sp) ∧ w'.cell? ⟨w.heap.size, 3, none⟩ = some (.int .i64 ix) ∧ w'.cell? ⟨w.heap.size, 4, none⟩ = some (.slice lo ln lc) ∧ w'.cell? ⟨w.heap.size, 5, none⟩ = some (.slice po pn pc) ∧ w'.cell? ⟨w.heap.size, 6, none⟩ = some (.slice so sn sc)) (go_keep)
    (first
      | (go_at_call 27; refine (CL.out _ HZ.out).mono ?_; rintro e w1 ⟨vo, vc, rfl, ho1, hb1⟩; have HB1 := ghid (HZ.out.trans (hb1.mono HZ.out.size)); have HO1 := ghid ho1; have HX1 := ghid (behind HX0.out (Below.refl _ _) hb1); have HR1 := ghid (behind HR0.out (Below.refl _ _) hb1); have hzz := hb1.size; have hz1 : w.heap.size + 2 ≤ w1.heap.size := HZS.out ▸ hzz; clear hzz hb1 ho1; obtain ⟨c0, c1, c2, c3, c4, c5, c6, cf, hpl⟩ := seven_cells HX1.out)
      | (go_at_call 28; refine (CS.out _).mono ?_; rintro e w2 ⟨rfl, hb2⟩; have HB2 := ghid (HB1.out.trans (hb2.mono HB1.out.size)); have HO2 := ghid (HO1.out.below hb2); have HX2 := ghid (behind HX1.out (Below.refl _ _) hb2); have HR2 := ghid (behind HR1.out (Below.refl _ _) hb2); have hz2 := hb2.size; clear hb2; obtain ⟨c0, c1, c2, c3, c4, c5, c6, cf, hpl⟩ := seven_cells HX2.out)
      | (go_at_call 29; refine (CM.out _ HB2.out).mono ?_; rintro e w3 ⟨lo3, po3, so3, ln3, lc3, pn3, pc3, sn3, sc3, rfl, hs3, hb3⟩; have HB3 := ghid (HB2.out.trans (hb3.mono HB2.out.size)); have HO3 := ghid (HO2.out.below hb3); have hz3 := hb3.size; have HS3 := ghid hs3; have HR3 := ghid (behind HR2.out (Below.refl _ _) hb3); obtain ⟨c0, c1, c2, c3, c4, c5, c6, cf, hpl⟩ := seven_cells (behind HX2.out (Below.refl _ _) hb3); clear hb3 hs3; obtain ⟨r0, r1, r2, r3, r4, r5, r6, rf, rl⟩ := seven_cells HR3.out))
  all_goals
    have HA := ghid (HO3.out.set7 (p := w.heap.size + 1) (by rw [HZS.out]; omega) (.int .i64 base) (.slice vo n vc) (.string sp) (.int .i64 ix) (.slice lo3 ln3 lc3) (.slice po3 pn3 pc3) (.slice so3 sn3 sc3)).now
    have HC := ghid (HS3.out.set7 (p := w.heap.size + 1) (by omega) (.int .i64 base) (.slice vo n vc) (.string sp) (.int .i64 ix) (.slice lo3 ln3 lc3) (.slice po3 pn3 pc3) (.slice so3 sn3 sc3)).now
    have HB := ghid (zset7 (b := w.heap.size + 1) HB3.out (by omega) (.int .i64 base) (.slice vo n vc) (.string sp) (.int .i64 ix) (.slice lo3 ln3 lc3) (.slice po3 pn3 pc3) (.slice so3 sn3 sc3))
    clear HO3 HS3 HR3 HB3 HR1 HX1 HR2 HX2 c0 c1 c2 c3 c4 c5 c6 cf hpl
    go_wp2
    refine bodyPost_ret (v := .agg #[.int .i64 base, .slice vo n vc, .string sp, .int .i64 ix, .slice lo3 ln3 lc3, .slice po3 pn3 pc3, .slice so3 sn3 sc3]) (by simp [results, Try.results15, go_sem, r0, r1, r2, r3, r4, r5, r6]) rfl ?_
    exact ⟨_, rfl, RepR.of (r := ⟨⟨base, ts⟩, sp, s⟩) ⟨_, rfl, HA.out⟩ HS.out HC.out rfl, HB.out⟩

set_option maxRecDepth 100000 in
set_option maxHeartbeats 1600000 in
/-- The law's sameReplica: what reads as one replica is the same. -/
theorem sameReplica_eq (v u : Value) (r : RepD) (w : World) (B B' : Nat) (hv : RepR w B v r) (hu : RepR w B' u r) (hB : B ≤ w.heap.size) (hB' : B' ≤ w.heap.size) :
    Calls Try.prog 16 #[v, u] w fun e w' => e = .returned (.bool true) ∧ Below w.heap.size w w' := by
  obtain ⟨eo, lo, po, so, ec, ln, lc, pn, pc, sn, sc, rfl, hl, hs, hst⟩ := hv.parts
  obtain ⟨eo2, lo2, po2, so2, ec2, ln2, lc2, pn2, pc2, sn2, sc2, rfl, hl2, hs2, hst2⟩ := hu.parts
  obtain ⟨⟨base, ts⟩, sp, s⟩ := r
  simp only at hl hs hst hl2 hst2 ⊢
  obtain ⟨ix, hix⟩ : ∃ ix, ix = s.index := ⟨_, rfl⟩
  obtain ⟨n, hn⟩ : ∃ n, n = ts.length := ⟨_, rfl⟩
  have HZ : Hid (Below w.heap.size w ((w.alloc (.cells #[.int .i64 base, .slice eo n ec, .string sp, .int .i64 ix, .slice lo ln lc, .slice po pn pc, .slice so sn sc] 40)).alloc (.cells #[.int .i64 base, .slice eo2 n ec2, .string sp, .int .i64 ix, .slice lo2 ln2 lc2, .slice po2 pn2 pc2, .slice so2 sn2 sc2] 40))) := ((Below.refl _ _).alloc (Nat.le_refl _) _).alloc (by simp) _
  have CL := ghid (fun u (hu : Below w.heap.size w u) => sameLog_eq _ _ ⟨base, ts⟩ u B B' (hl.below hu hB) (hl2.below hu hB') (by have := hu.size; omega) (by have := hu.size; omega))
  have CM := ghid (fun u (hu : Below w.heap.size w u) => sameState_eq _ _ s u B B' (hst.below hu hB) (hst2.below hu hB') (by have := hu.size; omega) (by have := hu.size; omega))
  rw [← hn] at CL ⊢
  rw [← hix] at CM ⊢
  clear hl hs hst hv hu hl2 hs2 hst2 hn hix
  go_enter Try.func16, Try.ntmps16
  go_wp2_with fail
  refine (CL.out _ HZ.out).mono ?_
  rintro e w1 ⟨rfl, hb1⟩
  obtain ⟨hx1, hy1, -⟩ := boxes7 (by simpa using hb1)
  have HB1 := ghid (HZ.out.trans (hb1.mono HZ.out.size))
  obtain ⟨c0, c1, c2, c3, c4, c5, c6, cf, hpl⟩ := seven_cells hx1
  obtain ⟨d0, d1, d2, d3, d4, d5, d6, df, dpl⟩ := seven_cells hy1
  clear hx1 hy1 hb1 CL
  go_wp2_with fail
  refine (CM.out _ HB1.out).mono ?_
  rintro e w2 ⟨rfl, hb2⟩
  have HB2 := ghid (HB1.out.trans (hb2.mono HB1.out.size))
  clear hb2
  go_wp2
  go_ret
  exact ⟨rfl, HB2.out⟩

set_option maxRecDepth 100000 in
set_option maxHeartbeats 1600000 in
theorem replicaCopies_walk (v : Value) (r : RepD) (w : World) (hv : RepR w w.heap.size v r) :
    Calls Try.prog 6 #[v] w fun e w' => e = .returned (.bool true) ∧ Below w.heap.size w w' := by
  have HV := ghid hv
  obtain ⟨eo, lo, po, so, ec, ln, lc, pn, pc, sn, sc, rfl, -, -, -⟩ := hv.parts
  obtain ⟨b, hbe⟩ : ∃ b, b = r.log.base := ⟨_, rfl⟩
  obtain ⟨n, hn⟩ : ∃ n, n = r.log.ents.length := ⟨_, rfl⟩
  obtain ⟨sp, hsp⟩ : ∃ b, b = r.snap := ⟨_, rfl⟩
  obtain ⟨ix, hix⟩ : ∃ b, b = r.state.index := ⟨_, rfl⟩
  rw [← hbe, ← hn, ← hsp, ← hix] at HV ⊢
  clear hv hbe hn hsp hix
  have HZ : Hid (Below w.heap.size w (w.alloc (.cells #[.int .i64 b, .slice eo n ec, .string sp, .int .i64 ix, .slice lo ln lc, .slice po pn pc, .slice so sn sc] 40))) := (Below.refl _ _).alloc (Nat.le_refl _) _
  have HX0 := ghid (heap_alloc_new w (.cells #[.int .i64 b, .slice eo n ec, .string sp, .int .i64 ix, .slice lo ln lc, .slice po pn pc, .slice so sn sc] 40))
  have CC := ghid (fun u (hu : Below w.heap.size w u) => repCopy_reads _ r u w.heap.size (HV.out.below hu (Nat.le_refl _)) hu.size)
  go_enter Try.func6, Try.ntmps6
  go_wp2_with fail
  refine (CC.out _ HZ.out).mono ?_
  rintro e w1 ⟨v1, rfl, hr1, hb1⟩
  obtain ⟨eo1, lo1, po1, so1, ec1, ln1, lc1, pn1, pc1, sn1, sc1, rfl, -⟩ := id hr1
  have hx1 := behind HX0.out (Below.refl _ _) hb1
  have HB1 := ghid (HZ.out.trans (hb1.mono HZ.out.size))
  have hba := (Below.refl w1.heap.size w1).alloc (Nat.le_refl _) (.cells #[.int .i64 r.log.base, .slice eo1 r.log.ents.length ec1, .string r.snap, .int .i64 r.state.index, .slice lo1 ln1 lc1, .slice po1 pn1 pc1, .slice so1 sn1 sc1] 40)
  have HB2 := ghid (HB1.out.trans (hba.mono HB1.out.size))
  have CS := ghid (sameReplica_eq _ _ r _ w1.heap.size w.heap.size (hr1.below hba (Nat.le_refl _)) (HV.out.below HB2.out (Nat.le_refl _)) hba.size HB2.out.size)
  obtain ⟨c0, c1, c2, c3, c4, c5, c6, cf, hpl⟩ := seven_cells hx1
  clear hr1 hb1 hx1 hba CC
  go_wp2_with fail
  refine CS.out.mono ?_
  rintro e w2 ⟨rfl, hb2⟩
  have HF := ghid (HB2.out.trans (hb2.mono HB2.out.size))
  clear hb2 CS
  go_wp2
  go_ret
  exact ⟨rfl, HF.out⟩

end Go.Proofs.Ytbmfahgekcnkaai
