/- machine.set. (Written by gen_set.py.) (joined by program) -/
import Derived.RegionTactic
import Derived.Deep.RegionWith
import Derived.Deep.RegionHeld3
import Derived.Test.YtijilhbdbeajjaaGreatDoorTT01
import Derived.Test.YtijilhbdbeajjaaGreatDoorTT09
import Derived.Test.YtijilhbdbeajjaaGreatDoorTT13
namespace Go.Proofs.YtijilhbdbeajjaaGreatDoor

open Go.RowKit

set_option maxRecDepth 100000 in
set_option maxHeartbeats 3200000 in
theorem mset_held (p : Nat) (s : StateD) (c k : Int) (a b : ByteArray) (n : Int) (w : World) (h : StB w p s) (hl : checkL s.locks = 0) (hw : ¬ ((whoL s.locks a).1 = c ∧ (whoL s.locks a).2 = n)) :
    Calls Tryz.prog 184 #[.pointer (some ⟨p, 0, none⟩), .int .i64 c, .agg #[.int .i64 k, .string a, .string b, .int .i64 n]] w fun e w' => e = .returned (.agg #[.int .i64 10, .int .i64 (whoL s.locks a).1, .string ⟨#[]⟩]) ∧ Below w.heap.size w w' := by
  obtain ⟨lo, po, so, ln, lc, pn, pc, sn, sc, h0, h1, h2, h3⟩ := h
  have CW := ghid (fun (w' : World) (hb : Below w.heap.size w w') => Who_ok (.slice lo ln lc) s.locks a w' w.heap.size ((h1.reads (Nat.le_refl _)).below hb (Nat.le_refl _)) hb.size hl)
  obtain ⟨⟨hh, hf⟩, hq⟩ : ∃ q, q = whoL s.locks a := ⟨_, rfl⟩
  rw [← hq] at CW hw ⊢
  simp only at CW hw ⊢
  have HP := ghid h0
  obtain ⟨d0, d1, d2, d3, df, hpl⟩ := state_cells h0
  have hne : p ≠ w.heap.size := by omega
  have hne' : w.heap.size ≠ p := by omega
  have hne2 : p ≠ w.heap.size + 1 := by omega
  have hne2' : w.heap.size + 1 ≠ p := by omega
  have HB0 : Hid (Below w.heap.size w ((w.alloc (.cells #[.int .i64 k, .string a, .string b, .int .i64 n] 38)).alloc (.cells #[.int .i64 0, .int .i64 0, .string ⟨#[]⟩] 73))) := ((Below.refl w.heap.size w).alloc (Nat.le_refl _) _).alloc (by simp) _
  have hpW := behind HP.out (Below.refl _ _) HB0.out
  obtain ⟨hrW, hoW⟩ := two_newB (Below.refl (w.heap.size + 2) ((w.alloc (.cells #[.int .i64 k, .string a, .string b, .int .i64 n] 38)).alloc (.cells #[.int .i64 0, .int .i64 0, .string ⟨#[]⟩] 73)))
  obtain ⟨a0, a1, a2, a3, af, hplW⟩ := state_cells hpW
  obtain ⟨o0, o1, o2, o3, of, holW⟩ := state_cells hoW
  obtain ⟨W0, hW0⟩ : ∃ W0, W0 = (w.alloc (.cells #[.int .i64 k, .string a, .string b, .int .i64 n] 38)).alloc (.cells #[.int .i64 0, .int .i64 0, .string ⟨#[]⟩] 73) := ⟨_, rfl⟩
  rw [← hW0] at HB0 hpW hrW hoW a0 a1 a2 a3 af hplW o0 o1 o2 o3 of holW
  have HW0 := ghid hW0
  have HPW := ghid hpW
  have HRW := ghid hrW
  have HOW := ghid hoW
  clear h0 h1 h2 h3 hpW hrW hoW hW0 d0 d1 d2 d3 df hq hl
  have hcase : (hh != c) = true ∨ ((hh != c) = false ∧ (hf != n) = true) := by
    by_cases e : hh = c
    · exact Or.inr ⟨by simpa using e, by simpa using fun e2 => hw ⟨e, e2⟩⟩
    · exact Or.inl (by simpa using e)
  clear hw
  go_enter Tryz.func184, Tryz.ntmps184
  go_upto_region 1 with fail
  rw [← HW0.out]
  clear HW0
  go_region_held3 (fun w' => w'.cell? ⟨p, 1, none⟩ = some (.slice lo ln lc) ∧ w'.cell? ⟨w.heap.size, 1, none⟩ = some (.string a)) (go_keep)
    (first
      | (go_at_call 29; refine (CW.out _ HB0.out.drew).mono ?_; rintro e w2 ⟨rfl, hb2⟩; have hbw2 : Below w.heap.size w w2 := (HB0.out.drew).trans (hb2.mono HB0.out.size); have hp2 := behind HPW.out ((Below.refl _ _).drew) hb2; have hr2 := behind HRW.out ((Below.refl _ _).drew) hb2; have ho2 := behind HOW.out ((Below.refl _ _).drew) hb2; obtain ⟨e0, e1, e2, e3, ef, hpl2⟩ := state_cells hp2; obtain ⟨r0, r1, r2, rf, hrl2⟩ := reply_cells hr2; obtain ⟨u0, u1, u2, u3, uf, hul2⟩ := state_cells ho2))
  clear hb2 hr2 ho2 hp2
  have HB := ghid hbw2
  clear hbw2
  rcases hcase with c1 | ⟨c1, c2⟩
  all_goals
    go_wp2
    refine bodyPost_ret (v := .agg #[.int .i64 10, .int .i64 hh, .string ⟨#[]⟩]) (by simp [results, Tryz.results184, go_sem, r0, r1, r2]) rfl ⟨rfl, ?_⟩
    exact ((HB.out.setCell (by show w.heap.size ≤ w.heap.size + 1; omega) _).setCell (by show w.heap.size ≤ w.heap.size + 1; omega) _).setCell (by show w.heap.size ≤ w.heap.size + 1; omega) _

set_option maxRecDepth 100000 in
set_option maxHeartbeats 3200000 in
theorem mset_ok (p : Nat) (s : StateD) (c k : Int) (a b : ByteArray) (n : Int) (w : World) (h : StB w p s) (hl : checkL s.locks = 0) (hw : whoL s.locks a = (c, n)) (hr : refuseP s.pairs a b = 0) (ha : a.size ≤ 140737488351232) (hb : b.size ≤ 140737488351232) :
    Calls Tryz.prog 184 #[.pointer (some ⟨p, 0, none⟩), .int .i64 c, .agg #[.int .i64 k, .string a, .string b, .int .i64 n]] w fun e w' => e = .returned (.agg #[.int .i64 (setP s.pairs a b).2.1, .int .i64 (setP s.pairs a b).2.2, .string ⟨#[]⟩]) ∧ StB w' p { s with pairs := (setP s.pairs a b).1 } ∧ TouchG w w' (fun b => b = p) := by
  have HS := ghid h
  obtain ⟨lo, po, so, ln, lc, pn, pc, sn, sc, h0, h1, h2, h3⟩ := h
  have CW := ghid (fun (w' : World) (hb : Below w.heap.size w w') => Who_ok (.slice lo ln lc) s.locks a w' w.heap.size ((h1.reads (Nat.le_refl _)).below hb (Nat.le_refl _)) hb.size hl)
  have CP := ghid (fun (w' : World) (hb' : Below w.heap.size w w') => Set_ok (.slice po pn pc) s.pairs a b w' w.heap.size (h2.below hb' (Nat.le_refl _)) hb'.size ha hb hr)
  rw [hw] at CW
  obtain ⟨⟨j, jc, jn⟩, hj⟩ : ∃ q, q = setP s.pairs a b := ⟨_, rfl⟩
  rw [← hj] at CP ⊢
  simp only [replyP] at CW CP ⊢
  have HP := ghid h0
  obtain ⟨d0, d1, d2, d3, df, hpl⟩ := state_cells h0
  have hne : p ≠ w.heap.size := by omega
  have hne' : w.heap.size ≠ p := by omega
  have hne2 : p ≠ w.heap.size + 1 := by omega
  have hne2' : w.heap.size + 1 ≠ p := by omega
  have HB0 : Hid (Below w.heap.size w ((w.alloc (.cells #[.int .i64 k, .string a, .string b, .int .i64 n] 38)).alloc (.cells #[.int .i64 0, .int .i64 0, .string ⟨#[]⟩] 73))) := ((Below.refl w.heap.size w).alloc (Nat.le_refl _) _).alloc (by simp) _
  have hpW := behind HP.out (Below.refl _ _) HB0.out
  obtain ⟨hrW, hoW⟩ := two_newB (Below.refl (w.heap.size + 2) ((w.alloc (.cells #[.int .i64 k, .string a, .string b, .int .i64 n] 38)).alloc (.cells #[.int .i64 0, .int .i64 0, .string ⟨#[]⟩] 73)))
  obtain ⟨a0, a1, a2, a3, af, hplW⟩ := state_cells hpW
  obtain ⟨o0, o1, o2, o3, of, holW⟩ := state_cells hoW
  obtain ⟨W0, hW0⟩ : ∃ W0, W0 = (w.alloc (.cells #[.int .i64 k, .string a, .string b, .int .i64 n] 38)).alloc (.cells #[.int .i64 0, .int .i64 0, .string ⟨#[]⟩] 73) := ⟨_, rfl⟩
  rw [← hW0] at HB0 hpW hrW hoW a0 a1 a2 a3 af hplW o0 o1 o2 o3 of holW
  have HW0 := ghid hW0
  have HPW := ghid hpW
  have HRW := ghid hrW
  have HOW := ghid hoW
  clear h0 h1 h2 h3 hpW hrW hoW hW0 d0 d1 d2 d3 df hj hl hw hr
  have c1 : (c != c) = false := by simp
  have c2 : (n != n) = false := by simp
  go_enter Tryz.func184, Tryz.ntmps184
  go_upto_region 1 with fail
  rw [← HW0.out]
  clear HW0
  go_region_held3 (fun w' => w'.cell? ⟨p, 1, none⟩ = some (.slice lo ln lc) ∧ w'.cell? ⟨w.heap.size, 1, none⟩ = some (.string a)) (go_keep)
    (first
      | (go_at_call 29; refine (CW.out _ HB0.out.drew).mono ?_; rintro e w2 ⟨rfl, hb2⟩; have hbw2 : Below w.heap.size w w2 := (HB0.out.drew).trans (hb2.mono HB0.out.size); have hp2 := behind HPW.out ((Below.refl _ _).drew) hb2; have hr2 := behind HRW.out ((Below.refl _ _).drew) hb2; have ho2 := behind HOW.out ((Below.refl _ _).drew) hb2; obtain ⟨e0, e1, e2, e3, ef, hpl2⟩ := state_cells hp2; obtain ⟨r0, r1, r2, rf, hrl2⟩ := reply_cells hr2; obtain ⟨u0, u1, u2, u3, uf, hul2⟩ := state_cells ho2))
  have HB2 := ghid hbw2
  have HP2 := ghid hp2
  have HR2 := ghid hr2
  have HO2 := ghid ho2
  clear hb2 hr2 ho2 hp2 hbw2 a0 a1 a2 a3 af o0 o1 o2 o3 of
  go_upto_region 4 with fail
  refine wp_region_held_drew (S := (fun w' : World => w'.cell? ⟨w.heap.size, 1, none⟩ = some (.string a) ∧ w'.cell? ⟨w.heap.size, 2, none⟩ = some (.string b))) (by kernel_rfl) ⟨u1, u2⟩ (fun hHeld => ?_)
  refine' wpAnyH_take (i := 0) (oi := { dst := some 33, op := Go.Op.move (Go.Operand.tmp 0), type := 133, pos := "machine.go:135", after := #[], guard := none }) (v := _) rfl (by kernel_rfl) (by kernel_rfl) (by kernel_rfl) (fun _ _ _ h => h) (Or.inl ⟨by rfl, ?hy1⟩) (by assumption) ?rest1
  case hy1 =>
    intro wy hSy
    clear hSy
    go_simp
    try rfl
  simp only [Act.put, List.setIfInBounds_toArray, List.set_cons_zero, List.set_cons_succ]
  refine' wpAnyH_take (i := 1) (oi := { dst := some 34, op := Go.Op.move (Go.Operand.tmp 0), type := 133, pos := "machine.go:135", after := #[], guard := none }) (v := _) rfl (by kernel_rfl) (by kernel_rfl) (by kernel_rfl) (fun _ _ _ h => h) (Or.inl ⟨by rfl, ?hy2⟩) (by assumption) ?rest2
  case hy2 =>
    intro wy hSy
    clear hSy
    go_simp
    try rfl
  simp only [Act.put, List.setIfInBounds_toArray, List.set_cons_zero, List.set_cons_succ]
  refine' wpAnyH_take (i := 2) (oi := { dst := some 35, op := Go.Op.nilCheck (Go.Operand.tmp 34), type := 0, pos := "machine.go:135", after := #[{ on := 1, ground := Go.Ground.data }], guard := none }) (v := _) rfl (by kernel_rfl) (by kernel_rfl) (by kernel_rfl) (fun _ _ _ h => h) (Or.inl ⟨by rfl, ?hy3⟩) (by assumption) ?rest3
  case hy3 =>
    intro wy hSy
    clear hSy
    go_simp
    try rfl
  simp only [Act.put, List.setIfInBounds_toArray, List.set_cons_zero, List.set_cons_succ]
  refine' wpAnyH_take (i := 3) (oi := { dst := some 36, op := Go.Op.fieldAddr 48 (Go.Operand.tmp 35) 2, type := 0, pos := "machine.go:135", after := #[{ on := 2, ground := Go.Ground.data }], guard := none }) (v := _) rfl (by kernel_rfl) (by kernel_rfl) (by kernel_rfl) (fun _ _ _ h => h) (Or.inl ⟨by rfl, ?hy4⟩) (by assumption) ?rest4
  case hy4 =>
    intro wy hSy
    clear hSy
    go_simp
    try rfl
  simp only [Act.put, List.setIfInBounds_toArray, List.set_cons_zero, List.set_cons_succ]
  refine' wpAnyH_take (i := 5) (oi := { dst := some 38, op := Go.Op.fieldAddr 38 (Go.Operand.tmp 5) 1, type := 0, pos := "machine.go:135", after := #[], guard := none }) (v := _) rfl (by kernel_rfl) (by kernel_rfl) (by kernel_rfl) (fun _ _ _ h => h) (Or.inl ⟨by rfl, ?hy5⟩) (by assumption) ?rest5
  case hy5 =>
    intro wy hSy
    clear hSy
    go_simp
    try rfl
  simp only [Act.put, List.setIfInBounds_toArray, List.set_cons_zero, List.set_cons_succ]
  refine' wpAnyH_take (i := 6) (oi := { dst := some 39, op := Go.Op.load 9 (Go.Operand.tmp 38), type := 9, pos := "machine.go:135", after := #[{ on := 5, ground := Go.Ground.data }], guard := none }) (v := _) rfl (by kernel_rfl) (by kernel_rfl) (by kernel_rfl) (fun _ _ _ h => h) (Or.inl ⟨by rfl, ?hy6⟩) (by assumption) ?rest6
  case hy6 =>
    intro wy hSy
    have SS := hSy
    obtain ⟨s0, s1⟩ := SS
    clear hSy
    go_simp
    try rfl
  simp only [Act.put, List.setIfInBounds_toArray, List.set_cons_zero, List.set_cons_succ]
  refine' wpAnyH_take (i := 7) (oi := { dst := some 40, op := Go.Op.fieldAddr 38 (Go.Operand.tmp 5) 2, type := 0, pos := "machine.go:135", after := #[], guard := none }) (v := _) rfl (by kernel_rfl) (by kernel_rfl) (by kernel_rfl) (fun _ _ _ h => h) (Or.inl ⟨by rfl, ?hy7⟩) (by assumption) ?rest7
  case hy7 =>
    intro wy hSy
    clear hSy
    go_simp
    try rfl
  simp only [Act.put, List.setIfInBounds_toArray, List.set_cons_zero, List.set_cons_succ]
  refine' wpAnyH_take (i := 8) (oi := { dst := some 41, op := Go.Op.load 9 (Go.Operand.tmp 40), type := 9, pos := "machine.go:135", after := #[{ on := 7, ground := Go.Ground.data }], guard := none }) (v := _) rfl (by kernel_rfl) (by kernel_rfl) (by kernel_rfl) (fun _ _ _ h => h) (Or.inl ⟨by rfl, ?hy8⟩) (by assumption) ?rest8
  case hy8 =>
    intro wy hSy
    have SS := hSy
    obtain ⟨s0, s1⟩ := SS
    clear hSy
    go_simp
    try rfl
  simp only [Act.put, List.setIfInBounds_toArray, List.set_cons_zero, List.set_cons_succ]
  refine wpAnyH_ready (rs := [4]) (by kernel_rfl) (by simp) ?_
  refine AllReadyH.cons (o := { dst := some 37, op := Go.Op.load 45 (Go.Operand.tmp 36), type := 45, pos := "machine.go:135", after := #[{ on := 3, ground := Go.Ground.data }], guard := none }) rfl (fun K hK => ?_) AllReadyH.nil
  go_simp
  refine hK.out _ _ hHeld (fun hHeld => ?_)
  clear hK K
  try simp only [Act.put, List.setIfInBounds_toArray, List.set_cons_zero, List.set_cons_succ]
  refine wpAnyH_ready (rs := [9]) (by kernel_rfl) (by simp) ?_
  refine AllReadyH.cons (o := { dst := some 42, op := Go.Op.call { callee := Go.Callee.value (Go.Operand.func 222), args := #[Go.Operand.tmp 37, Go.Operand.tmp 39, Go.Operand.tmp 41], argTypes := #[45, 9, 9] }, type := 302, pos := "machine.go:135", after := #[{ on := 4, ground := Go.Ground.data }, { on := 6, ground := Go.Ground.data }, { on := 8, ground := Go.Ground.data }], guard := none }) rfl (fun K hK => ?_) AllReadyH.nil
  go_simp
  refine (CP.out _ HB2.out.drew).mono ?_
  rintro e w3 ⟨v3, rfl, hs3, hb3⟩
  clear e0 e1 e2 e3 ef r0 r1 r2 rf u0 u1 u2 u3 uf
  have hbw3 : Below w.heap.size w w3 := (HB2.out.drew).trans (hb3.mono HB2.out.size)
  have hp3 := behind HP2.out ((Below.refl _ _).drew) hb3
  have hr3 := behind HR2.out ((Below.refl _ _).drew) hb3
  have ho3 := behind HO2.out ((Below.refl _ _).drew) hb3
  obtain ⟨e0, e1, e2, e3, ef, hpl3⟩ := state_cells hp3
  obtain ⟨r0, r1, r2, rf, hrl3⟩ := reply_cells hr3
  obtain ⟨u0, u1, u2, u3, uf, hul3⟩ := state_cells ho3
  obtain ⟨vo, vc, rfl⟩ := hs3.slice
  have HS3 : (fun w' : World => w'.cell? ⟨w.heap.size, 1, none⟩ = some (.string a) ∧ w'.cell? ⟨w.heap.size, 2, none⟩ = some (.string b)) w3 := ⟨u1, u2⟩
  refine hK.out _ _ HS3 (fun hHeld => ?_)
  clear hK K
  try simp only [Act.put, List.setIfInBounds_toArray, List.set_cons_zero, List.set_cons_succ]
  refine' wpAnyH_take (i := 10) (oi := { dst := some 32, op := Go.Op.move (Go.Operand.tmp 42), type := 302, pos := "machine.go:135", after := #[{ on := 9, ground := Go.Ground.data }], guard := none }) (v := _) rfl (by kernel_rfl) (by kernel_rfl) (by kernel_rfl) (fun _ _ _ h => h) (Or.inl ⟨by rfl, ?hy9⟩) (by assumption) ?rest9
  case hy9 =>
    intro wy hSy
    clear hSy
    go_simp
    try rfl
  simp only [Act.put, List.setIfInBounds_toArray, List.set_cons_zero, List.set_cons_succ]
  refine' wpAnyH_take (i := 11) (oi := { dst := some 43, op := Go.Op.extract (Go.Operand.tmp 32) 0, type := 45, pos := "machine.go:135", after := #[{ on := 10, ground := Go.Ground.data }], guard := none }) (v := _) rfl (by kernel_rfl) (by kernel_rfl) (by kernel_rfl) (fun _ _ _ h => h) (Or.inl ⟨by rfl, ?hy10⟩) (by assumption) ?rest10
  case hy10 =>
    intro wy hSy
    clear hSy
    go_simp
    try rfl
  simp only [Act.put, List.setIfInBounds_toArray, List.set_cons_zero, List.set_cons_succ]
  refine' wpAnyH_take (i := 12) (oi := { dst := some 44, op := Go.Op.extract (Go.Operand.tmp 32) 1, type := 73, pos := "machine.go:135", after := #[{ on := 10, ground := Go.Ground.data }, { on := 16, ground := Go.Ground.gcOnly Go.Departure.lateStores }], guard := none }) (v := _) rfl (by kernel_rfl) (by kernel_rfl) (by kernel_rfl) (fun _ _ _ h => h) (Or.inl ⟨by rfl, ?hy11⟩) (by assumption) ?rest11
  case hy11 =>
    intro wy hSy
    clear hSy
    go_simp
    try rfl
  simp only [Act.put, List.setIfInBounds_toArray, List.set_cons_zero, List.set_cons_succ]
  refine' wpAnyH_take (i := 13) (oi := { dst := some 45, op := Go.Op.extract (Go.Operand.tmp 32) 2, type := 33, pos := "machine.go:135", after := #[{ on := 10, ground := Go.Ground.data }, { on := 17, ground := Go.Ground.gcOnly Go.Departure.lateStores }], guard := none }) (v := _) rfl (by kernel_rfl) (by kernel_rfl) (by kernel_rfl) (fun _ _ _ h => h) (Or.inl ⟨by rfl, ?hy12⟩) (by assumption) ?rest12
  case hy12 =>
    intro wy hSy
    clear hSy
    go_simp
    try rfl
  simp only [Act.put, List.setIfInBounds_toArray, List.set_cons_zero, List.set_cons_succ]
  refine' wpAnyH_take (i := 14) (oi := { dst := some 46, op := Go.Op.nilCheck (Go.Operand.tmp 33), type := 0, pos := "machine.go:135", after := #[{ on := 0, ground := Go.Ground.data }, { on := 0, ground := Go.Ground.phase }, { on := 1, ground := Go.Ground.phase }, { on := 2, ground := Go.Ground.phase }, { on := 3, ground := Go.Ground.phase }, { on := 4, ground := Go.Ground.phase }, { on := 5, ground := Go.Ground.phase }, { on := 6, ground := Go.Ground.phase }, { on := 7, ground := Go.Ground.phase }, { on := 8, ground := Go.Ground.phase }, { on := 9, ground := Go.Ground.phase }, { on := 10, ground := Go.Ground.phase }, { on := 11, ground := Go.Ground.phase }, { on := 12, ground := Go.Ground.textOnly Go.Departure.lateStores }, { on := 13, ground := Go.Ground.textOnly Go.Departure.lateStores }], guard := none }) (v := _) rfl (by kernel_rfl) (by kernel_rfl) (by kernel_rfl) (fun _ _ _ h => h) (Or.inl ⟨by rfl, ?hy13⟩) (by assumption) ?rest13
  case hy13 =>
    intro wy hSy
    clear hSy
    go_simp
    try rfl
  simp only [Act.put, List.setIfInBounds_toArray, List.set_cons_zero, List.set_cons_succ]
  refine' wpAnyH_take (i := 15) (oi := { dst := some 47, op := Go.Op.fieldAddr 48 (Go.Operand.tmp 46) 2, type := 0, pos := "machine.go:135", after := #[{ on := 14, ground := Go.Ground.data }, { on := 0, ground := Go.Ground.phase }, { on := 1, ground := Go.Ground.phase }, { on := 2, ground := Go.Ground.phase }, { on := 3, ground := Go.Ground.phase }, { on := 4, ground := Go.Ground.phase }, { on := 5, ground := Go.Ground.phase }, { on := 6, ground := Go.Ground.phase }, { on := 7, ground := Go.Ground.phase }, { on := 8, ground := Go.Ground.phase }, { on := 9, ground := Go.Ground.phase }, { on := 10, ground := Go.Ground.phase }, { on := 11, ground := Go.Ground.phase }, { on := 12, ground := Go.Ground.textOnly Go.Departure.lateStores }, { on := 13, ground := Go.Ground.textOnly Go.Departure.lateStores }], guard := none }) (v := _) rfl (by kernel_rfl) (by kernel_rfl) (by kernel_rfl) (fun _ _ _ h => h) (Or.inl ⟨by rfl, ?hy14⟩) (by assumption) ?rest14
  case hy14 =>
    intro wy hSy
    clear hSy
    go_simp
    try rfl
  simp only [Act.put, List.setIfInBounds_toArray, List.set_cons_zero, List.set_cons_succ]
  refine wpAnyH_ready (rs := [16]) (by kernel_rfl) (by simp) ?_
  refine AllReadyH.cons (o := { dst := none, op := Go.Op.store 45 (Go.Operand.tmp 47) (Go.Operand.tmp 43), type := 0, pos := "machine.go:135", after := #[{ on := 15, ground := Go.Ground.data }, { on := 11, ground := Go.Ground.data }, { on := 9, ground := Go.Ground.chain }, { on := 0, ground := Go.Ground.phase }, { on := 1, ground := Go.Ground.phase }, { on := 2, ground := Go.Ground.phase }, { on := 3, ground := Go.Ground.phase }, { on := 4, ground := Go.Ground.phase }, { on := 5, ground := Go.Ground.phase }, { on := 6, ground := Go.Ground.phase }, { on := 7, ground := Go.Ground.phase }, { on := 8, ground := Go.Ground.phase }, { on := 9, ground := Go.Ground.phase }, { on := 10, ground := Go.Ground.phase }, { on := 11, ground := Go.Ground.phase }, { on := 12, ground := Go.Ground.textOnly Go.Departure.lateStores }, { on := 13, ground := Go.Ground.textOnly Go.Departure.lateStores }], guard := none }) rfl (fun K hK => ?_) AllReadyH.nil
  go_simp
  have HS4 : (fun w' : World => w'.cell? ⟨w.heap.size, 1, none⟩ = some (.string a) ∧ w'.cell? ⟨w.heap.size, 2, none⟩ = some (.string b)) (w3.setCell ⟨p, 2, none⟩ (.slice vo j.length vc)) := ⟨(World.cell?_setCell_far _ _ _ _ (by simpa using hne)).trans u1, (World.cell?_setCell_far _ _ _ _ (by simpa using hne)).trans u2⟩
  refine hK.out _ _ HS4 (fun hHeld => ?_)
  clear hK K
  try simp only [Act.put, List.setIfInBounds_toArray, List.set_cons_zero, List.set_cons_succ]
  refine wpAnyH_ready (rs := [17]) (by kernel_rfl) (by simp) ?_
  refine AllReadyH.cons (o := { dst := none, op := Go.Op.store 73 (Go.Operand.tmp 6) (Go.Operand.tmp 44), type := 0, pos := "machine.go:135", after := #[{ on := 12, ground := Go.Ground.data }, { on := 16, ground := Go.Ground.chain }, { on := 0, ground := Go.Ground.phase }, { on := 1, ground := Go.Ground.phase }, { on := 2, ground := Go.Ground.phase }, { on := 3, ground := Go.Ground.phase }, { on := 4, ground := Go.Ground.phase }, { on := 5, ground := Go.Ground.phase }, { on := 6, ground := Go.Ground.phase }, { on := 7, ground := Go.Ground.phase }, { on := 8, ground := Go.Ground.phase }, { on := 9, ground := Go.Ground.phase }, { on := 10, ground := Go.Ground.phase }, { on := 11, ground := Go.Ground.phase }, { on := 12, ground := Go.Ground.phase }, { on := 13, ground := Go.Ground.textOnly Go.Departure.lateStores }, { on := 14, ground := Go.Ground.phase }, { on := 15, ground := Go.Ground.phase }, { on := 16, ground := Go.Ground.phase }], guard := none }) rfl (fun K hK => ?_) AllReadyH.nil
  go_simp
  have HS5 : (fun w' : World => w'.cell? ⟨w.heap.size, 1, none⟩ = some (.string a) ∧ w'.cell? ⟨w.heap.size, 2, none⟩ = some (.string b)) ((((w3.setCell ⟨p, 2, none⟩ (.slice vo j.length vc)).setCell ⟨w.heap.size + 1, 0, none⟩ (.int .i64 jc)).setCell ⟨w.heap.size + 1, 1, none⟩ (.int .i64 jn)).setCell ⟨w.heap.size + 1, 2, none⟩ (.string ⟨#[]⟩)) := ⟨(World.cell?_setCell_far _ _ _ _ (by simp)).trans ((World.cell?_setCell_far _ _ _ _ (by simp)).trans ((World.cell?_setCell_far _ _ _ _ (by simp)).trans HS4.1)), (World.cell?_setCell_far _ _ _ _ (by simp)).trans ((World.cell?_setCell_far _ _ _ _ (by simp)).trans ((World.cell?_setCell_far _ _ _ _ (by simp)).trans HS4.2))⟩
  refine hK.out _ _ HS5 (fun hHeld => ?_)
  clear hK K
  try simp only [Act.put, List.setIfInBounds_toArray, List.set_cons_zero, List.set_cons_succ]
  refine wpAnyH_done (by kernel_rfl) ?_ _
  have K1 := (HS.out.below hbw3).setPairs hs3
  have hr4 : (w3.setCell ⟨p, 2, none⟩ (.slice vo j.length vc)).heap[w.heap.size + 1]? = some (.cells #[.int .i64 0, .int .i64 0, .string ⟨#[]⟩] 73 (0, 0)) := (Below.heap_setCell _ _ _ _ (by simpa using hne2')).trans hr3
  obtain ⟨K2, hr5⟩ := K1.reply hr4 hne2' jc jn ⟨#[]⟩
  have KT := (touch_reply (r := w.heap.size + 1) ((TouchG.of_below hbw3 (Nat.le_refl _) (fun b => b = p)).setCell (a := ⟨p, 2, none⟩) (Or.inl rfl) (.slice vo j.length vc)) (Or.inr (by omega)) (.int .i64 jc) (.int .i64 jn) (.string ⟨#[]⟩))
  obtain ⟨W4, hW4⟩ : ∃ W4, W4 = (((w3.setCell ⟨p, 2, none⟩ (.slice vo j.length vc)).setCell ⟨w.heap.size + 1, 0, none⟩ (.int .i64 jc)).setCell ⟨w.heap.size + 1, 1, none⟩ (.int .i64 jn)).setCell ⟨w.heap.size + 1, 2, none⟩ (.string ⟨#[]⟩) := ⟨_, rfl⟩
  rw [← hW4] at K2 hr5 KT ⊢
  obtain ⟨q0, q1, q2, qf, hql⟩ := reply_cells hr5
  have KF := ghid (K2.reply hr5 hne2' jc jn ⟨#[]⟩).1
  have HT := ghid (touch_reply (r := w.heap.size + 1) KT (Or.inr (by omega)) (.int .i64 jc) (.int .i64 jn) (.string ⟨#[]⟩))
  clear hb3 hs3 hp3 hr3 ho3 hr4 hr5 K1 K2 KT hbw3 hW4 e0 e1 e2 e3 ef r0 r1 r2 rf u0 u1 u2 u3 uf HS3 HS4 HS5 hHeld
  go_wp2
  refine bodyPost_ret (v := .agg #[.int .i64 jc, .int .i64 jn, .string ⟨#[]⟩]) (by simp [results, Tryz.results184, go_sem, q0, q1, q2]) rfl ⟨rfl, ?_, ?_⟩
  · exact KF.out
  · exact HT.out

end Go.Proofs.YtijilhbdbeajjaaGreatDoor
