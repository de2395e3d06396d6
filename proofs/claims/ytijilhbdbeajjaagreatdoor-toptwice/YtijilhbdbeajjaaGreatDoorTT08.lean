/- lock.refuse, lock.add (joined by program) -/
import Derived.Test.YtijilhbdbeajjaaGreatDoorTT04
import Derived.Test.YtijilhbdbeajjaaGreatDoorTT05
import Derived.Test.YtijilhbdbeajjaaGreatDoorTT07
import Derived.Test.YtijilhbdbeajjaaGreatDoorTT02
namespace Go.Proofs.YtijilhbdbeajjaaGreatDoor

open Go.RowKit

/-- What Take and Free refuse. -/
def refuseL (ls : List LockD) (nm : ByteArray) (who : Int) : Int := if checkL ls ≠ 0 then checkL ls else if nameB nm = false then 4 else if who < 1 ∨ 9 < who then 2 else 0

set_option maxHeartbeats 800000 in
theorem refuse_any (v : Value) (ls : List LockD) (nm : ByteArray) (who : Int) (w : World) (B : Nat) (hv : LocksR w B v ls) (hB : B ≤ w.heap.size) (hs : nm.size ≤ 140737488351232) :
    Calls Tryz.prog 219 #[v, .string nm, .int .i64 who] w fun e w' => e = .returned (.int .i64 (refuseL ls nm who)) ∧ Below w.heap.size w w' := by
  have CC := check_any v ls w B hv hB
  obtain ⟨ao, cap, rfl, -⟩ := hv
  by_cases h0 : checkL ls = 0
  · have h00 : (checkL ls != 0) = false := by simpa using h0
    rw [h0] at CC
    cases hn : nameB nm with
    | false =>
      have e : refuseL ls nm who = 4 := by simp [refuseL, h0, hn]
      rw [e]
      clear e h0 h00
      go_enter Tryz.func219, Tryz.ntmps219
      go_wp2_with fail
      refine CC.mono ?_
      rintro e w1 ⟨rfl, hb1⟩
      go_wp2_with fail
      refine (name_any nm _ (by omega)).mono ?_
      rintro e w2 ⟨rfl, rfl⟩
      rw [hn]
      go_wp2
      go_ret
      exact ⟨rfl, hb1⟩
    | true =>
      by_cases hw : who < 1 ∨ 9 < who
      · have e : refuseL ls nm who = 2 := by simp [refuseL, h0, hn, hw]
        rw [e]
        have CI := fun w => isClient_no who w hw
        clear e h0 h00 hw
        go_enter Tryz.func219, Tryz.ntmps219
        go_wp2_with fail
        refine CC.mono ?_
        rintro e w1 ⟨rfl, hb1⟩
        go_wp2_with fail
        refine (name_any nm _ (by omega)).mono ?_
        rintro e w2 ⟨rfl, rfl⟩
        rw [hn]
        go_wp2_with fail
        refine (CI _).mono ?_
        rintro e w3 ⟨rfl, rfl⟩
        go_wp2
        go_ret
        exact ⟨rfl, hb1⟩
      · have e : refuseL ls nm who = 0 := by simp [refuseL, h0, hn, hw]
        rw [e]
        have CI := fun w => isClient_yes who w (by omega) (by omega)
        clear e h0 h00 hw
        go_enter Tryz.func219, Tryz.ntmps219
        go_wp2_with fail
        refine CC.mono ?_
        rintro e w1 ⟨rfl, hb1⟩
        go_wp2_with fail
        refine (name_any nm _ (by omega)).mono ?_
        rintro e w2 ⟨rfl, rfl⟩
        rw [hn]
        go_wp2_with fail
        refine (CI _).mono ?_
        rintro e w3 ⟨rfl, rfl⟩
        go_wp2
        go_ret
        exact ⟨rfl, hb1⟩
  · have e : refuseL ls nm who = checkL ls := by simp [refuseL, h0]
    rw [e]
    have h00 : (checkL ls != 0) = true := by simpa using h0
    clear e h0
    go_enter Tryz.func219, Tryz.ntmps219
    go_wp2_with fail
    refine CC.mono ?_
    rintro e w1 ⟨rfl, hb1⟩
    go_wp2
    go_ret
    exact ⟨rfl, hb1⟩

set_option maxHeartbeats 800000 in
theorem add_full (g : Nat) (nm : ByteArray) (who : Int) (w : World) :
    Calls Tryz.prog 220 #[.slice (some ⟨g, 0, none⟩) 5 5, .string nm, .int .i64 who] w fun e w' => e = .returned (.tuple #[.slice (some ⟨g, 0, none⟩) 5 5, replyV 8 0]) ∧ Below w.heap.size w w' := by
  go_enter Tryz.func220, Tryz.ntmps220
  go_wp2
  exact bodyPost_ret (v := .tuple #[.slice (some ⟨g, 0, none⟩) 5 5, replyV 8 0]) (by simp [results, Tryz.results220, go_sem, replyV]) rfl ⟨rfl, (Below.refl _ _).alloc (Nat.le_refl _) _⟩

/-- Where a name belongs among names. -/
def Place (ls : List LockD) (nm : ByteArray) (i : Nat) : Prop :=
  (i < ls.length ∧ (∃ x, ls[i]? = some x ∧ gtN x.name nm = true) ∧ ∀ (j : Nat) (x : LockD), j < i → ls[j]? = some x → gtN x.name nm = false) ∨ (i = ls.length ∧ ∀ (j : Nat) (x : LockD), ls[j]? = some x → gtN x.name nm = false)

/-- At most one way to put a lock in: slices.Insert at its place. -/
theorem insert_place (g n i : Nat) (rs : List (LockD × Value)) (x : LockD) (bx : Nat) (w : World) (base : Nat) (h : OwnL w base (.slice (some ⟨g, 0, none⟩) n n) rs) (hn : n = rs.length) (h5 : n < 5) (hin : i ≤ n) (hx : ∀ j u, (lockCells (x, .slice none 0 0))[j]? = some u → w.cell? ⟨bx, j, none⟩ = some u) (hbx : bx < w.heap.size) :
    Calls Tryz.prog 244 #[.slice (some ⟨g, 0, none⟩) n n, .int .i64 i, .slice (some ⟨bx, 0, none⟩) 1 1] w fun e w' => ∃ v', e = .returned v' ∧ w'.ownsRow w.heap.size 82 4 v' (rs.length + 1) (flat (rs.take i ++ (x, .slice none 0 0) :: rs.drop i)) ∧ Below w.heap.size w w' := by
  by_cases e : i = n
  · subst e
    refine (insert_end g i rs (x, .slice none 0 0) bx w base h hn h5 hx rfl).mono ?_
    rintro e w' ⟨v', rfl, ho, hb⟩
    refine ⟨v', rfl, ?_, hb⟩
    have e1 : rs.take i = rs := List.take_of_length_le (by omega)
    have e2 : rs.drop i = [] := List.drop_of_length_le (by omega)
    rw [e1, e2, flat_mid, ← hn]
    simpa [flat] using ho
  · refine (insert_mid g n i rs (x, .slice none 0 0) bx w base h hn h5 (by omega) hx hbx rfl).mono ?_
    rintro e w' ⟨v', rfl, ho, hb⟩
    refine ⟨v', rfl, ?_, hb⟩
    rw [flat_mid, ← hn]
    exact ho

theorem add_fin {w W w3 : World} {base : Nat} {v v3 a b c : Value} {rs : List (LockD × Value)} {i : Nat} {x : LockD} {cs : Array Value} (hO : OwnL W base v rs) (hbase : base ≤ w.heap.size) (hW : Below w.heap.size w W) (hWR : W.heap[w.heap.size]? = some (.cells cs 73 (0, 0))) (hWs : w.heap.size < W.heap.size) (hb3 : Below W.heap.size W w3)
    (hr : w3.ownsRow W.heap.size 82 4 v3 (rs.length + 1) (flat (rs.take i ++ (x, .slice none 0 0) :: rs.drop i))) (hi : i ≤ rs.length) (hl : x.line = []) (hn : x.name.size ≤ 140737488351232) (h5 : rs.length < 5) :
    OwnL (((w3.setCell ⟨w.heap.size, 0, none⟩ a).setCell ⟨w.heap.size, 1, none⟩ b).setCell ⟨w.heap.size, 2, none⟩ c) base v3 (rs.take i ++ (x, .slice none 0 0) :: rs.drop i) ∧ Below w.heap.size w (((w3.setCell ⟨w.heap.size, 0, none⟩ a).setCell ⟨w.heap.size, 1, none⟩ b).setCell ⟨w.heap.size, 2, none⟩ c) := by
  have h1 := hO.insert hb3 (by omega) hr hi hl hn h5
  have hne : v3.ownBlock ≠ some w.heap.size := fun e => by have := (hr.lt _ e).1; omega
  have hnl : ∀ b ∈ lineBlocks (rs.take i ++ (x, .slice none 0 0) :: rs.drop i), b ≠ w.heap.size := fun b hb e => by
    subst e
    exact h1.notLine ((hb3.block _ hWs).trans hWR) (by decide) hb
  exact ⟨((h1.setOther hne hnl _).setOther hne hnl _).setOther hne hnl _, (((hW.trans (hb3.mono (by omega))).setCell (Nat.le_refl _) _).setCell (Nat.le_refl _) _).setCell (Nat.le_refl _) _⟩

set_option maxRecDepth 100000 in
set_option maxHeartbeats 3200000 in
theorem add_new (g n i : Nat) (rs : List (LockD × Value)) (nm : ByteArray) (who : Int) (w : World) (base : Nat) (h : OwnL w base (.slice (some ⟨g, 0, none⟩) n n) rs) (hn : n = rs.length) (h5 : n < 5) (hp : Place (rs.map (·.1)) nm i) (hs : nm.size ≤ 140737488351232) :
    Calls Tryz.prog 220 #[.slice (some ⟨g, 0, none⟩) n n, .string nm, .int .i64 who] w fun e w' => ∃ v', e = .returned (.tuple #[v', replyV 0 1]) ∧ OwnL w' base v' (rs.take i ++ (⟨nm, who, 1, []⟩, .slice none 0 0) :: rs.drop i) ∧ Below w.heap.size w w' := by
  have hbase : base ≤ w.heap.size := by have := h.row.lt g rfl; omega
  have HO : Hid (∀ w', Below w.heap.size w w' → OwnL w' base (.slice (some ⟨g, 0, none⟩) n n) rs) := fun w' hb => h.below hb (Nat.le_refl _)
  have CI : Hid (∀ w', Below w.heap.size w w' → ∀ b0, w'.cell? ⟨b0, 0, none⟩ = some (.string nm) → b0 < w'.heap.size → Calls Tryz.prog 30 #[.slice (some ⟨g, 0, none⟩) n n, .func (.func 259) #[] #[.pointer (some ⟨b0, 0, none⟩)]] w' fun e w'' => (e = .returned (.int .i64 i) ∧ i < n ∨ e = .returned (.int .i64 (-1)) ∧ i = n) ∧ Below w'.heap.size w' w'') := by
    intro w' hb b0 hc hb0
    have hr := (HO.out w' hb).reads (Nat.le_refl _)
    rcases hp with ⟨hi, ⟨x, hx, hgt⟩, hm⟩ | ⟨hi, hm⟩
    · refine (indexAbove_found _ _ nm b0 i x w' _ hr (Nat.le_refl _) hc hb0 hx hgt hm).mono ?_
      rintro e w'' ⟨rfl, hb'⟩
      exact ⟨Or.inl ⟨rfl, by simpa [← hn] using hi⟩, hb'⟩
    · refine (indexAbove_none _ _ nm b0 w' _ hr (Nat.le_refl _) hc hb0 hm).mono ?_
      rintro e w'' ⟨rfl, hb'⟩
      exact ⟨Or.inr ⟨rfl, by simpa [← hn] using hi⟩, hb'⟩
  have h5b : ((n : Int) == 5) = false := by simpa using (show ¬ (n : Int) = 5 by omega)
  have HP := Hid.mk' hn
  clear h hp hn
  go_enter Tryz.func220, Tryz.ntmps220
  go_wp2_with fail
  refine (above_any nm _).mono ?_
  rintro e w1 ⟨rfl, rfl⟩
  go_wp2_with fail
  refine (CI.out _ (((Below.refl _ _).alloc (Nat.le_refl _) _).alloc (by simp) _) (w.heap.size + 1) (by simp) (by simp)).mono ?_
  rintro e w1 ⟨hcase, hb1⟩
  have hz1 : w.heap.size + 2 ≤ w1.heap.size := by have := hb1.size; simpa using this
  have hbw1 : Below w.heap.size w w1 := (((Below.refl _ _).alloc (Nat.le_refl _) _).alloc (by simp) _).trans (hb1.mono (by simp; omega))
  have hR1 : w1.heap[w.heap.size]? = some (.cells #[.int .i64 0, .int .i64 0, .string ⟨#[]⟩] 73 (0, 0)) := by
    rw [hb1.block _ (by simp; omega), Below.heap_alloc _ _ _ (by simp)]
    exact heap_alloc_new w _
  have hin : i ≤ n := by rcases hcase with ⟨_, h⟩ | ⟨_, h⟩ <;> omega
  have HR1 := Hid.mk' hR1
  have HB1 := Hid.mk' hbw1
  clear hb1 hR1 hbw1 CI
  rcases hcase with ⟨rfl, hlt⟩ | ⟨rfl, rfl⟩
  all_goals
    go_wp2_with fail
    refine (clone_any nm _ (by omega)).mono ?_
    rintro e w2 ⟨rfl, hb2⟩
    have hz2 : w.heap.size + 2 ≤ w2.heap.size := by have := hb2.size; omega
    have HB2 : Hid (Below w.heap.size w w2) := HB1.out.trans (hb2.mono (by omega))
    have HR2 : Hid (w2.heap[w.heap.size]? = some (.cells #[.int .i64 0, .int .i64 0, .string ⟨#[]⟩] 73 (0, 0))) := by
      unfold Hid; rw [hb2.block _ (by omega)]; exact HR1.out
    have r0 : ∀ j, w2.cell? ⟨w.heap.size, j, none⟩ = #[Value.int .i64 0, .int .i64 0, .string ⟨#[]⟩][j]? := fun j => cell_of_row w2 w.heap.size j _ _ _ HR2.out
    have rf : ∀ j, w2.frozen? ⟨w.heap.size, j, none⟩ = false := fun j => frozen_of_row w2 w.heap.size j _ _ HR2.out
    clear hb2
    have q1 : w.heap.size < w2.heap.size := by omega
    have q2 : w.heap.size < w2.heap.size + 1 := by omega
    have q3 : w.heap.size < w2.heap.size + 1 + 1 := by omega
    have q4 : w.heap.size ≠ w2.heap.size := by omega
    have q5 : w.heap.size ≠ w2.heap.size + 1 := by omega
    have HW : Hid (Below w.heap.size w ((w2.alloc (.cells #[.string nm, .int .i64 who, .int .i64 1, .slice none 0 0] 82)).alloc (.cells #[.string nm, .int .i64 who, .int .i64 1, .slice none 0 0] 82)).drew) := ((HB2.out.alloc (by omega) _).alloc (by simp; omega) _).drew
    go_wp2_with fail
    go_region_with (go_at_call 244; refine (insert_place g _ i rs ⟨nm, who, 1, []⟩ (w2.heap.size + 1) _ base (HO.out _ HW.out) HP.out h5 hin (by intro j u hj; match j, hj with | 0, hj => simp [lockCells] at hj; subst hj; simp | 1, hj => simp [lockCells] at hj; subst hj; simp | 2, hj => simp [lockCells] at hj; subst hj; simp | 3, hj => simp [lockCells] at hj; subst hj; simp) (by simp)).mono ?_; rintro e w3 ⟨v3, rfl, hown3, hb3⟩; obtain ⟨hc3, hf3⟩ := bcell hb3; obtain ⟨vo, vc, rfl⟩ := ownsRow_shape hown3)
    all_goals
      have g3 : w3.heap[w.heap.size]? = some (.cells #[.int .i64 0, .int .i64 0, .string ⟨#[]⟩] 73 (0, 0)) := (hb3.block _ (by simp; omega)).trans (by show ((w2.alloc _).alloc _).heap[w.heap.size]? = _; rw [Below.heap_alloc _ _ _ (by simp; omega), Below.heap_alloc _ _ _ q1]; exact HR2.out)
      have s0 : w3.cell? ⟨w.heap.size, 0, none⟩ = some (.int .i64 0) := cell_of_row w3 w.heap.size 0 _ _ _ g3
      have s1 : w3.cell? ⟨w.heap.size, 1, none⟩ = some (.int .i64 0) := cell_of_row w3 w.heap.size 1 _ _ _ g3
      have s2 : w3.cell? ⟨w.heap.size, 2, none⟩ = some (.string ⟨#[]⟩) := cell_of_row w3 w.heap.size 2 _ _ _ g3
      have K := add_fin (a := .int .i64 0) (b := .int .i64 1) (c := .string ⟨#[]⟩) (HO.out _ HW.out) hbase HW.out (by show ((w2.alloc _).alloc _).heap[w.heap.size]? = _; rw [Below.heap_alloc _ _ _ (by simp; omega), Below.heap_alloc _ _ _ q1]; exact HR2.out) (by simp; omega) hb3 hown3 (by have := HP.out; omega) rfl hs (by have := HP.out; omega)
      have HK := Hid.mk' K
      clear K hown3 hb3 g3 hc3 hf3
      go_wp2
      exact bodyPost_ret (v := .tuple #[.slice vo (rs.length + 1) vc, replyV 0 1]) (by simp [results, Tryz.results220, go_sem, replyV, s0, s1, s2]) rfl ⟨_, rfl, HK.out.1, HK.out.2⟩

end Go.Proofs.YtijilhbdbeajjaaGreatDoor
