/- pair.Get answers what the document says of getting a value, at every argument: the law tackroomlaw.PairGets returns true and leaves its arguments as they were; no condition. -/
import Derived.Test.YtajjgghklpajeadRows
import Derived.WalkKit
import Derived.ProofKit
import Derived.OpenShut
import Derived.ShutString
import Derived.Below
import Derived.SizedLaws
import Derived.Carry
import Derived.Test.YtajjgghklpajeadPairOpen
import Derived.Test.YtajjgghklpajeadPairGet
import Derived.Test.YtajjgghklpajeadReplyEq
namespace Go.Proofs.Ytajjgghklpajead.pairGets
open Go.ChangeShapes Go.WideShapes Go.ChangeAt Go.RowKit
open Go.ChangeMaps (open_string shut_string)
set_option linter.unusedVariables false

theorem own : ownKnob Try.prog.godebug = none := by kernel_rfl
theorem laidOut : laidOutB Try.prog = true := by kernel_rfl

set_option maxRecDepth 100000 in
set_option maxHeartbeats 1600000 in
theorem walk (w : World) (v0 : Value) (ls0 : List PairD) (H0 : PairsR w w.heap.size v0 ls0) (a1 : ByteArray) (z1 : a1.size ≤ 140737488351232) :
    Calls Try.prog 4 #[v0, .string a1] w fun e w' => e = .returned (.bool true) ∧ Below w.heap.size w w' := by
  obtain ⟨c, m, t, ec, C1, C2⟩ : ∃ (c m : Int) (t : ByteArray) (ec : Int), (∀ (w' : World), Below w.heap.size w w' → Calls Try.prog 8 #[v0, .string a1] w' fun e w2 => e = .returned (.tuple #[replyP c m t, .int .i64 ec]) ∧ Below w'.heap.size w' w2) ∧
      (∀ (w' : World), Below w.heap.size w w' → Calls Try.prog 9 #[v0, .string a1] w' fun e w2 => e = .returned (.tuple #[replyP c m t, .int .i64 ec]) ∧ Below w'.heap.size w' w2) := by
    by_cases hr : checkP ls0 = 0
    · exact ⟨_, _, _, 0, fun w' hb => Get_ok v0 ls0 a1 w' w.heap.size (H0.below hb (Nat.le_refl _)) hb.size hr, fun w' hb => gotOf_ok v0 ls0 a1 w' w.heap.size (H0.below hb (Nat.le_refl _)) hb.size hr⟩
    · exact ⟨_, _, _, _, fun w' hb => Get_bad v0 ls0 a1 w' w.heap.size (H0.below hb (Nat.le_refl _)) hb.size hr, fun w' hb => gotOf_bad v0 ls0 a1 w' w.heap.size (H0.below hb (Nat.le_refl _)) hb.size hr⟩
  obtain ⟨ao, cap, rfl, -⟩ := H0
  simp only [replyP] at C1 C2
  go_enter Try.func4, Try.ntmps4
  go_wp2_with fail
  refine (C1 _ (Below.refl _ _)).mono ?_
  rintro e w1 ⟨rfl, hb1⟩
  have hb1' : Below w1.heap.size w1 (w1.alloc (.cells #[.int .i64 c, .int .i64 m, .string t] 25)) := (Below.refl _ _).alloc (Nat.le_refl _) _
  have HB1 := phid (hb1.trans (hb1'.mono hb1.size))
  clear hb1 hb1' C1
  go_wp2_with fail
  refine (C2 _ HB1.out).mono ?_
  rintro e w2 ⟨rfl, hb2⟩
  have g2 : w2.heap[w1.heap.size]? = some (.cells #[.int .i64 c, .int .i64 m, .string t] 25 (0, 0)) := (hb2.block _ (by simp)).trans (heap_alloc_new w1 _)
  have s0 : w2.cell? ⟨w1.heap.size, 0, none⟩ = some (.int .i64 c) := cell_of_row w2 w1.heap.size 0 _ _ _ g2
  have s1 : w2.cell? ⟨w1.heap.size, 1, none⟩ = some (.int .i64 m) := cell_of_row w2 w1.heap.size 1 _ _ _ g2
  have s2 : w2.cell? ⟨w1.heap.size, 2, none⟩ = some (.string t) := cell_of_row w2 w1.heap.size 2 _ _ _ g2
  have hz : w1.heap.size < w2.heap.size := lt_of_block g2
  have hzn : w1.heap.size ≠ w2.heap.size := by omega
  have HB2 := phid (HB1.out.trans (hb2.mono HB1.out.size))
  have HB3 := phid (HB2.out.alloc HB2.out.size (.cells #[.int .i64 c, .int .i64 m, .string t] 25))
  have hq := fun w => reply_eq c m t w
  have hgd : Try.prog.eqGuardType Try.prog.depth 25 = false := by kernel_rfl
  clear hb2 C2 g2
  go_wp2
  go_ret
  exact ⟨rfl, HB3.out⟩

set_option maxRecDepth 100000 in
theorem lifted (os : Os) (started : os.Started) (H : Type) (enc : TypeId × Value → H) :
    ReturnsInHanded {} Try.checked os 4 .any (Rows.pairGetsSpec.pre6 enc Try.prog Try.f4 Rows.pairGetsRow.domain false) (Rows.pairGetsSpec.post enc Try.prog Try.f4 false true false false) := by
  refine returnsInHanded_of_change_sized (C := Try.checked) own started (by kernel_rfl) Try.func4
    (ChangeSpec.witness6 (enc := enc) (C := Try.checked) false ⟨#[], #[.slice none 0 0, .string ByteArray.empty], []⟩ 8 (by kernel_rfl) (by kernel_rfl) (by kernel_rfl) (by kernel_rfl)) ?_
  intro W base args ds gs before hval0 hW hcnd hsz _
  have hval : ∀ (j : Nat) t v, Try.f4.params[j]? = some t → args[j]? = some v → Value.okWide Try.prog W .any base t v := hval0
  have hW' := hW
  obtain ⟨p, q, hA0, hV, rfl, hfz, hnd⟩ := hW
  have hA : DataW.TrodAll enc Try.prog W 0 (fun _ => true) true Try.f4.params.toList args.toList ds p := hA0
  rw [Try.params4] at hA hval
  obtain ⟨v0, vs0, d0, ds0, p0, q0, hargs, rfl, rfl, h0, r0⟩ := trodAll_cons hA
  obtain ⟨v1, vs1, d1, ds1, p1, q1, rfl, rfl, rfl, h1, r1⟩ := trodAll_cons r0
  obtain ⟨rfl, rfl, rfl⟩ := trodAll_nil r1
  obtain rfl : args = #[v0, v1] := by cases args; simp_all
  obtain ⟨rfl, rfl⟩ := trodVars_none hV
  simp only [List.append_nil] at hW'
  have lt0 : ∀ x ∈ p0, x.block < W.heap.size := fun x hx => by simpa using hW'.lt x (by simp [hx])
  have lt1 : ∀ x ∈ p1, x.block < W.heap.size := fun x hx => by simpa using hW'.lt x (by simp [hx])
  have k0 := h0
  obtain ⟨ls0, H0⟩ := open_pairsR h0 (okWide_slice Try.underlying22 (hval 0 22 v0 rfl rfl)) (fun n hn => by
    have := List.all_eq_true.1 hsz n (DataW.weights_mem_each (j := 0) (t := 22) (d := d0) rfl rfl n hn)
    simpa using this)
  have k1 := h1
  obtain ⟨a1, rfl, rfl, rfl, w1⟩ := open_string Try.underlying9 (hval 1 9 v1 rfl rfl) h1
  have z1 : a1.size ≤ 140737488351232 := by
    have := sized_string hsz (j := 1) (t := 9) rfl rfl
    simpa [reachBytes] using this
  refine (walk W v0 ls0 H0 a1 z1).mono fun e W' ⟨he, hg⟩ => ?_
  subst he
  exact ⟨_, rfl, _, _, _, [], p0 ++ ([] ++ []), [], hW', trodAll_mk1 (shut_bool Try.underlying4 _), (trodAll_cons_mk (Below.trod laidOut (by kernel_rfl) (of_decide_eq_true (by kernel_rfl)) k0 hg lt0) (trodAll_cons_mk (Below.trod laidOut (by kernel_rfl) (of_decide_eq_true (by kernel_rfl)) k1 hg lt1) trodAll_mk0)), rfl, hg.frame _, fun h => by cases h⟩

theorem over : Rows.pairGetsRow.holds Try.pinned (OpenSpec.ofChange Rows.pairGetsSpec) :=
  OpenClaim.holds_of_wide 4 Try.f4 rfl rfl rfl rfl rfl rfl rfl ⟨rfl, rfl, rfl, rfl, rfl⟩ rfl rfl rfl rfl rfl (by kernel_rfl) Try.func4 (by kernel_rfl)
    (of_decide_eq_true (by kernel_rfl)) (by unfold Func.isWrapper; first | (rw [if_pos (by decide +kernel)]; kernel_rfl) | (rw [if_neg (by decide +kernel)]; exact ⟨rfl, rfl⟩))
    (fun os started H enc _ => lifted os started H enc)

theorem proved : Rows.PairGetsSaid :=
  over
end Go.Proofs.Ytajjgghklpajead.pairGets
namespace Go.Proofs.Ytajjgghklpajead
theorem pairGets_holds : Rows.PairGetsSaid := pairGets.proved
#print axioms pairGets_holds
end Go.Proofs.Ytajjgghklpajead
