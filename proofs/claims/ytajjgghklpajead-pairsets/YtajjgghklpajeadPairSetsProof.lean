/- pair.Set answers what the document says of setting a value, at every argument, and leaves the pairs that were handed in: the law tackroomlaw.PairSets returns true and leaves its arguments as they were; no condition. -/
import Derived.Test.YtajjgghklpajeadRows
import Derived.WalkKit
import Derived.ProofKit
import Derived.OpenShut
import Derived.ShutString
import Derived.Below
import Derived.SizedLaws
import Derived.Carry
import Derived.Test.YtajjgghklpajeadPairOpen
import Derived.Test.YtajjgghklpajeadPairRefSet2
import Derived.Test.YtajjgghklpajeadReplyEq
namespace Go.Proofs.Ytajjgghklpajead.pairSets
open Go.ChangeShapes Go.WideShapes Go.ChangeAt Go.RowKit
open Go.ChangeMaps (open_string shut_string)
set_option linter.unusedVariables false

theorem own : ownKnob Try.prog.godebug = none := by kernel_rfl
theorem laidOut : laidOutB Try.prog = true := by kernel_rfl

set_option maxRecDepth 100000 in
set_option maxHeartbeats 3200000 in
theorem walk (w : World) (v0 : Value) (ls0 : List PairD) (H0 : PairsR w w.heap.size v0 ls0) (a1 : ByteArray) (z1 : a1.size ≤ 140737488351232) (a2 : ByteArray) (z2 : a2.size ≤ 140737488351232) :
    Calls Try.prog 3 #[v0, .string a1, .string a2] w fun e w' => e = .returned (.bool true) ∧ Below w.heap.size w w' := by
  obtain ⟨ls', c, m, ec, C1, C2⟩ : ∃ (ls' : List PairD) (c m ec : Int), (∀ (u : Value) (w' : World), PairsR w' w'.heap.size u ls0 → Calls Try.prog 5 #[u, .string a1, .string a2] w' fun e w2 => ∃ v', e = .returned (.tuple #[v', replyP c m ⟨#[]⟩, .int .i64 ec]) ∧ PairsR w2 w2.heap.size v' ls' ∧ Below w'.heap.size w' w2) ∧
      (∀ (u : Value) (w' : World), PairsR w' w'.heap.size u ls0 → Calls Try.prog 6 #[u, .string a1, .string a2] w' fun e w2 => ∃ v', e = .returned (.tuple #[v', replyP c m ⟨#[]⟩, .int .i64 ec]) ∧ PairsR w2 w2.heap.size v' ls' ∧ Below w'.heap.size w' w2) := by
    by_cases hr : refuseP ls0 a1 a2 = 0
    · exact ⟨_, _, _, 0, fun u w' hu => Set_ok u ls0 a1 a2 w' _ hu (Nat.le_refl _) z1 z2 hr, fun u w' hu => setOf_ok u ls0 a1 a2 w' _ hu (Nat.le_refl _) z1 z2 hr⟩
    · exact ⟨[], 0, 0, _, fun u w' hu => (Set_bad u ls0 a1 a2 w' _ hu (Nat.le_refl _) z1 z2 hr).mono (by rintro e w2 ⟨rfl, hb⟩; exact ⟨_, rfl, PairsR.nil _ _, hb⟩), fun u w' hu => (setOf_bad u ls0 a1 a2 w' _ hu (Nat.le_refl _) z1 z2 hr).mono (by rintro e w2 ⟨rfl, hb⟩; exact ⟨_, rfl, PairsR.nil _ _, hb⟩)⟩
  obtain ⟨i0, hi0, hy0, hy1, hy2⟩ := info_parts Try.infoPair
  have HV := phid H0
  have HM := phid H0.modest
  have hlen := H0.len
  obtain ⟨ao, cap, rfl, -, -, hnone, -⟩ := H0
  have HN : Hid (ao = none → ls0.length = 0 ∧ cap = 0) := fun e => by
    have h1 := hnone e
    obtain ⟨_, _, e2, hle, -⟩ := HV.out
    simp only [Value.slice.injEq] at e2
    omega
  have HNW := phid (pairs_news HV.out (Below.refl _ w))
  simp only [replyP] at C1 C2
  clear hnone
  go_enter Try.func3, Try.ntmps3
  go_wp2_with (at_builtin; refine wpList_append_fresh rfl _ (.tmp 14) 22 rfl 40 i0 _ 3 40 Try.underlying22 hi0 hy0 hy1 hy2 rfl (by decide) rfl ao ls0.length cap (flatP ls0) rfl HN.out (flatP_length ls0) HNW.out (flatP_one ls0) (by unfold maxLen; omega) (by omega) ?_)
  intro k1 w1 hown1 hgrow1
  have hb1 : Below w.heap.size w w1 := (Below.refl _ _).grown hgrow1 (Nat.le_refl _) (fun k hk => by cases hk)
  have HK1 := phid (pairs_reads hown1 HM.out hlen (Nat.le_refl _))
  have HL1 := phid (HV.out.below hb1 (Nat.le_refl _))
  have HB1 := phid hb1
  obtain ⟨ko, kc, rfl⟩ := prow_shape hown1
  clear hown1 hgrow1 hb1 HNW HN
  go_wp2_with fail
  refine (C1 _ _ HK1.out).mono ?_
  rintro e w2 ⟨v2, rfl, hr2, hb2⟩
  have hb2' : Below w2.heap.size w2 (w2.alloc (.cells #[.int .i64 c, .int .i64 m, .string ⟨#[]⟩] 25)) := (Below.refl _ _).alloc (Nat.le_refl _) _
  have HR2 := phid (hr2.below hb2' (Nat.le_refl _))
  have HK2 := phid ((HK1.out.below hb2 (Nat.le_refl _)).below hb2' hb2.size)
  have HL2 := phid ((HL1.out.below hb2 HB1.out.size).below hb2' (Nat.le_trans HB1.out.size hb2.size))
  have HB2 := phid ((HB1.out.trans (hb2.mono HB1.out.size)).trans (hb2'.mono (Nat.le_trans HB1.out.size hb2.size)))
  have hz12 : w1.heap.size ≤ w2.heap.size := hb2.size
  have hz01 : w.heap.size ≤ w1.heap.size := HB1.out.size
  obtain ⟨vo2, vc2, rfl, -⟩ := hr2
  clear hb2 hb2' C1 HK1 HL1 HB1
  go_wp2_with fail
  refine (C2 _ _ (HL2.out.mono HB2.out.size)).mono ?_
  rintro e w3 ⟨v3, rfl, hr3, hb3⟩
  have hb3' : Below w3.heap.size w3 (w3.alloc (.cells #[.int .i64 c, .int .i64 m, .string ⟨#[]⟩] 25)) := (Below.refl _ _).alloc (Nat.le_refl _) _
  have g3 : w3.heap[w2.heap.size]? = some (.cells #[.int .i64 c, .int .i64 m, .string ⟨#[]⟩] 25 (0, 0)) := (hb3.block _ (by simp)).trans (heap_alloc_new w2 _)
  have s0 : w3.cell? ⟨w2.heap.size, 0, none⟩ = some (.int .i64 c) := cell_of_row w3 w2.heap.size 0 _ _ _ g3
  have s1 : w3.cell? ⟨w2.heap.size, 1, none⟩ = some (.int .i64 m) := cell_of_row w3 w2.heap.size 1 _ _ _ g3
  have s2 : w3.cell? ⟨w2.heap.size, 2, none⟩ = some (.string ⟨#[]⟩) := cell_of_row w3 w2.heap.size 2 _ _ _ g3
  have hz23 : w2.heap.size < w3.heap.size := lt_of_block g3
  have hz23n : w2.heap.size ≠ w3.heap.size := by omega
  have HR3 := phid (hr3.below hb3' (Nat.le_refl _))
  have HR23 := phid ((HR2.out.below hb3 (by simp)).below hb3' (by omega))
  have HK3 := phid ((HK2.out.below hb3 (by simp; omega)).below hb3' (by omega))
  have HL3 := phid ((HL2.out.below hb3 (by simp; omega)).below hb3' (by omega))
  have HB3 := phid ((HB2.out.trans (hb3.mono (by simp; omega))).trans (hb3'.mono (by omega)))
  have hq := fun w => reply_eq c m ⟨#[]⟩ w
  have hgd : Try.prog.eqGuardType Try.prog.depth 25 = false := by kernel_rfl
  obtain ⟨vo3, vc3, rfl, -⟩ := hr3
  clear hb3 hb3' C2 g3
  go_wp2_with fail
  refine (samePairs_eq _ _ ls' _ _ _ HR23.out HR3.out).mono ?_
  rintro e w4 ⟨rfl, n4, rfl⟩
  go_wp2_with fail
  refine (samePairs_eq _ _ ls0 _ _ _ (HK3.out.below (pairs_drewN_below _ _ n4) (Nat.le_refl _)) (HL3.out.below (pairs_drewN_below _ _ n4) (Nat.le_refl _))).mono ?_
  rintro e w5 ⟨rfl, n5, rfl⟩
  go_wp2
  go_ret
  exact ⟨rfl, by first | exact HB3.out.trans (pairs_drewN_below _ _ _) | exact (HB3.out.trans (pairs_drewN_below _ _ _)).trans (pairs_drewN_below _ _ _)⟩

set_option maxRecDepth 100000 in
theorem lifted (os : Os) (started : os.Started) (H : Type) (enc : TypeId × Value → H) :
    ReturnsInHanded {} Try.checked os 3 .any (Rows.pairSetsSpec.pre6 enc Try.prog Try.f3 Rows.pairSetsRow.domain false) (Rows.pairSetsSpec.post enc Try.prog Try.f3 false true false false) := by
  refine returnsInHanded_of_change_sized (C := Try.checked) own started (by kernel_rfl) Try.func3
    (ChangeSpec.witness6 (enc := enc) (C := Try.checked) false ⟨#[], #[.slice none 0 0, .string ByteArray.empty, .string ByteArray.empty], []⟩ 8 (by kernel_rfl) (by kernel_rfl) (by kernel_rfl) (by kernel_rfl)) ?_
  intro W base args ds gs before hval0 hW hcnd hsz _
  have hval : ∀ (j : Nat) t v, Try.f3.params[j]? = some t → args[j]? = some v → Value.okWide Try.prog W .any base t v := hval0
  have hW' := hW
  obtain ⟨p, q, hA0, hV, rfl, hfz, hnd⟩ := hW
  have hA : DataW.TrodAll enc Try.prog W 0 (fun _ => true) true Try.f3.params.toList args.toList ds p := hA0
  rw [Try.params3] at hA hval
  obtain ⟨v0, vs0, d0, ds0, p0, q0, hargs, rfl, rfl, h0, r0⟩ := trodAll_cons hA
  obtain ⟨v1, vs1, d1, ds1, p1, q1, rfl, rfl, rfl, h1, r1⟩ := trodAll_cons r0
  obtain ⟨v2, vs2, d2, ds2, p2, q2, rfl, rfl, rfl, h2, r2⟩ := trodAll_cons r1
  obtain ⟨rfl, rfl, rfl⟩ := trodAll_nil r2
  obtain rfl : args = #[v0, v1, v2] := by cases args; simp_all
  obtain ⟨rfl, rfl⟩ := trodVars_none hV
  simp only [List.append_nil] at hW'
  have lt0 : ∀ x ∈ p0, x.block < W.heap.size := fun x hx => by simpa using hW'.lt x (by simp [hx])
  have lt1 : ∀ x ∈ p1, x.block < W.heap.size := fun x hx => by simpa using hW'.lt x (by simp [hx])
  have lt2 : ∀ x ∈ p2, x.block < W.heap.size := fun x hx => by simpa using hW'.lt x (by simp [hx])
  have k0 := h0
  obtain ⟨ls0, H0⟩ := open_pairsR h0 (okWide_slice Try.underlying22 (hval 0 22 v0 rfl rfl)) (fun n hn => by
    have := List.all_eq_true.1 hsz n (DataW.weights_mem_each (j := 0) (t := 22) (d := d0) rfl rfl n hn)
    simpa using this)
  have k1 := h1
  obtain ⟨a1, rfl, rfl, rfl, w1⟩ := open_string Try.underlying9 (hval 1 9 v1 rfl rfl) h1
  have z1 : a1.size ≤ 140737488351232 := by
    have := sized_string hsz (j := 1) (t := 9) rfl rfl
    simpa [reachBytes] using this
  have k2 := h2
  obtain ⟨a2, rfl, rfl, rfl, w2⟩ := open_string Try.underlying9 (hval 2 9 v2 rfl rfl) h2
  have z2 : a2.size ≤ 140737488351232 := by
    have := sized_string hsz (j := 2) (t := 9) rfl rfl
    simpa [reachBytes] using this
  refine (walk W v0 ls0 H0 a1 z1 a2 z2).mono fun e W' ⟨he, hg⟩ => ?_
  subst he
  exact ⟨_, rfl, _, _, _, [], p0 ++ ([] ++ ([] ++ [])), [], hW', trodAll_mk1 (shut_bool Try.underlying4 _), (trodAll_cons_mk (Below.trod laidOut (by kernel_rfl) (of_decide_eq_true (by kernel_rfl)) k0 hg lt0) (trodAll_cons_mk (Below.trod laidOut (by kernel_rfl) (of_decide_eq_true (by kernel_rfl)) k1 hg lt1) (trodAll_cons_mk (Below.trod laidOut (by kernel_rfl) (of_decide_eq_true (by kernel_rfl)) k2 hg lt2) trodAll_mk0))), rfl, hg.frame _, fun h => by cases h⟩

theorem over : Rows.pairSetsRow.holds Try.pinned (OpenSpec.ofChange Rows.pairSetsSpec) :=
  OpenClaim.holds_of_wide 3 Try.f3 rfl rfl rfl rfl rfl rfl rfl ⟨rfl, rfl, rfl, rfl, rfl⟩ rfl rfl rfl rfl rfl (by kernel_rfl) Try.func3 (by kernel_rfl)
    (of_decide_eq_true (by kernel_rfl)) (by unfold Func.isWrapper; first | (rw [if_pos (by decide +kernel)]; kernel_rfl) | (rw [if_neg (by decide +kernel)]; exact ⟨rfl, rfl⟩))
    (fun os started H enc _ => lifted os started H enc)

theorem proved : Rows.PairSetsSaid :=
  over
end Go.Proofs.Ytajjgghklpajead.pairSets
namespace Go.Proofs.Ytajjgghklpajead
theorem pairSets_holds : Rows.PairSetsSaid := pairSets.proved
#print axioms pairSets_holds
end Go.Proofs.Ytajjgghklpajead
