/- machine.operate. (Written by gen_oper.py.) (joined by program) -/
import Derived.Test.YtijilhbdbeajjaaGreatDoorTT14
import Derived.Test.YtijilhbdbeajjaaGreatDoorTT09
import Derived.Test.YtijilhbdbeajjaaGreatDoorTT10
namespace Go.Proofs.YtijilhbdbeajjaaGreatDoor

open Go.RowKit

set_option maxRecDepth 100000 in
set_option maxHeartbeats 3200000 in
theorem moper_try (p : Nat) (s : StateD) (c : Int) (a b : ByteArray) (n : Int) (w : World) (h : StB w p s) (hr : refuseL s.locks a c = 0) (ha : a.size ≤ 140737488351232) :
    Calls Tryz.prog 141 #[.pointer (some ⟨p, 0, none⟩), .int .i64 c, .agg #[.int .i64 1, .string a, .string b, .int .i64 n]] w fun e w' => e = .returned (.agg #[.int .i64 (takeL s.locks a c false).2.1, .int .i64 (takeL s.locks a c false).2.2, .string ⟨#[]⟩]) ∧ StB w' p { s with locks := (takeL s.locks a c false).1 } ∧ TouchG w w' (fun b => b = p) := by
  have HS := ghid h
  obtain ⟨lo, po, so, ln, lc, pn, pc, sn, sc, h0, h1, h2, h3⟩ := h
  have CT := ghid (fun (w' : World) (hb : Below w.heap.size w w') => Take_own (.slice lo ln lc) s.locks a c false w' w.heap.size ((h1.reads (Nat.le_refl _)).below hb (Nat.le_refl _)) hb.size ha hr)
  obtain ⟨⟨j, jc, jn⟩, hj⟩ : ∃ q, q = takeL s.locks a c false := ⟨_, rfl⟩
  rw [← hj] at CT ⊢
  simp only [replyV] at CT ⊢
  have HP := ghid h0
  obtain ⟨d0, d1, d2, d3, df, hpl⟩ := state_cells h0
  have hne : p ≠ w.heap.size := by omega
  have hne' : w.heap.size ≠ p := by omega
  have hne2 : p ≠ w.heap.size + 1 := by omega
  have hne2' : w.heap.size + 1 ≠ p := by omega
  have HB0 : Hid (Below w.heap.size w ((w.alloc (.cells #[.int .i64 1, .string a, .string b, .int .i64 n] 38)).alloc (.cells #[.int .i64 0, .int .i64 0, .string ⟨#[]⟩] 73))) := ((Below.refl w.heap.size w).alloc (Nat.le_refl _) _).alloc (by simp) _
  have hpW := behind HP.out (Below.refl _ _) HB0.out
  obtain ⟨hrW, hoW⟩ := two_newB (Below.refl (w.heap.size + 2) ((w.alloc (.cells #[.int .i64 1, .string a, .string b, .int .i64 n] 38)).alloc (.cells #[.int .i64 0, .int .i64 0, .string ⟨#[]⟩] 73)))
  obtain ⟨a0, a1, a2, a3, af, hplW⟩ := state_cells hpW
  obtain ⟨o0, o1, o2, o3, of, holW⟩ := state_cells hoW
  obtain ⟨W0, hW0⟩ : ∃ W0, W0 = (w.alloc (.cells #[.int .i64 1, .string a, .string b, .int .i64 n] 38)).alloc (.cells #[.int .i64 0, .int .i64 0, .string ⟨#[]⟩] 73) := ⟨_, rfl⟩
  rw [← hW0] at HB0 hpW hrW hoW a0 a1 a2 a3 af hplW o0 o1 o2 o3 of holW
  have HW0 := ghid hW0
  have HPW := ghid hpW
  have HRW := ghid hrW
  have HOW := ghid hoW
  clear h0 h1 h2 h3 hj hr hpW hrW hoW hW0 d0 d1 d2 d3 df
  go_enter Tryz.func141, Tryz.ntmps141
  go_upto_region 4 with fail
  rw [← HW0.out]
  clear HW0
  refine wp_region_held_drew (S := (fun w' : World => w'.cell? ⟨w.heap.size, 0, none⟩ = some (.int .i64 1) ∧ w'.cell? ⟨w.heap.size, 1, none⟩ = some (.string a))) (by kernel_rfl) ⟨o0, o1⟩ (fun hHeld => ?_)
  refine' wpAnyH_take (i := 0) (oi := { dst := some 13, op := Go.Op.move (Go.Operand.tmp 0), type := 133, pos := "machine.go:116", after := #[], guard := none }) (v := _) rfl (by kernel_rfl) (by kernel_rfl) (by kernel_rfl) (fun _ _ _ h => h) (Or.inl ⟨by rfl, ?hy1⟩) (by assumption) ?rest1
  case hy1 =>
    intro wy hSy
    clear hSy
    go_simp
    try rfl
  simp only [Act.put, List.setIfInBounds_toArray, List.set_cons_zero, List.set_cons_succ]
  refine' wpAnyH_take (i := 1) (oi := { dst := some 14, op := Go.Op.move (Go.Operand.tmp 0), type := 133, pos := "machine.go:116", after := #[], guard := none }) (v := _) rfl (by kernel_rfl) (by kernel_rfl) (by kernel_rfl) (fun _ _ _ h => h) (Or.inl ⟨by rfl, ?hy2⟩) (by assumption) ?rest2
  case hy2 =>
    intro wy hSy
    clear hSy
    go_simp
    try rfl
  simp only [Act.put, List.setIfInBounds_toArray, List.set_cons_zero, List.set_cons_succ]
  refine' wpAnyH_take (i := 2) (oi := { dst := some 15, op := Go.Op.nilCheck (Go.Operand.tmp 14), type := 0, pos := "machine.go:116", after := #[{ on := 1, ground := Go.Ground.data }], guard := none }) (v := _) rfl (by kernel_rfl) (by kernel_rfl) (by kernel_rfl) (fun _ _ _ h => h) (Or.inl ⟨by rfl, ?hy3⟩) (by assumption) ?rest3
  case hy3 =>
    intro wy hSy
    clear hSy
    go_simp
    try rfl
  simp only [Act.put, List.setIfInBounds_toArray, List.set_cons_zero, List.set_cons_succ]
  refine' wpAnyH_take (i := 3) (oi := { dst := some 16, op := Go.Op.fieldAddr 48 (Go.Operand.tmp 15) 1, type := 0, pos := "machine.go:116", after := #[{ on := 2, ground := Go.Ground.data }], guard := none }) (v := _) rfl (by kernel_rfl) (by kernel_rfl) (by kernel_rfl) (fun _ _ _ h => h) (Or.inl ⟨by rfl, ?hy4⟩) (by assumption) ?rest4
  case hy4 =>
    intro wy hSy
    clear hSy
    go_simp
    try rfl
  simp only [Act.put, List.setIfInBounds_toArray, List.set_cons_zero, List.set_cons_succ]
  refine' wpAnyH_take (i := 5) (oi := { dst := some 18, op := Go.Op.fieldAddr 38 (Go.Operand.tmp 5) 1, type := 0, pos := "machine.go:116", after := #[], guard := none }) (v := _) rfl (by kernel_rfl) (by kernel_rfl) (by kernel_rfl) (fun _ _ _ h => h) (Or.inl ⟨by rfl, ?hy5⟩) (by assumption) ?rest5
  case hy5 =>
    intro wy hSy
    clear hSy
    go_simp
    try rfl
  simp only [Act.put, List.setIfInBounds_toArray, List.set_cons_zero, List.set_cons_succ]
  refine' wpAnyH_take (i := 6) (oi := { dst := some 19, op := Go.Op.load 9 (Go.Operand.tmp 18), type := 9, pos := "machine.go:116", after := #[{ on := 5, ground := Go.Ground.data }], guard := none }) (v := _) rfl (by kernel_rfl) (by kernel_rfl) (by kernel_rfl) (fun _ _ _ h => h) (Or.inl ⟨by rfl, ?hy6⟩) (by assumption) ?rest6
  case hy6 =>
    intro wy hSy
    have SS := hSy
    obtain ⟨s0, s1⟩ := SS
    clear hSy
    go_simp
    try rfl
  simp only [Act.put, List.setIfInBounds_toArray, List.set_cons_zero, List.set_cons_succ]
  refine' wpAnyH_take (i := 7) (oi := { dst := some 20, op := Go.Op.move (Go.Operand.tmp 1), type := 3, pos := "machine.go:116", after := #[], guard := none }) (v := _) rfl (by kernel_rfl) (by kernel_rfl) (by kernel_rfl) (fun _ _ _ h => h) (Or.inl ⟨by rfl, ?hy7⟩) (by assumption) ?rest7
  case hy7 =>
    intro wy hSy
    clear hSy
    go_simp
    try rfl
  simp only [Act.put, List.setIfInBounds_toArray, List.set_cons_zero, List.set_cons_succ]
  refine' wpAnyH_take (i := 8) (oi := { dst := some 21, op := Go.Op.fieldAddr 38 (Go.Operand.tmp 5) 0, type := 0, pos := "machine.go:116", after := #[], guard := none }) (v := _) rfl (by kernel_rfl) (by kernel_rfl) (by kernel_rfl) (fun _ _ _ h => h) (Or.inl ⟨by rfl, ?hy8⟩) (by assumption) ?rest8
  case hy8 =>
    intro wy hSy
    clear hSy
    go_simp
    try rfl
  simp only [Act.put, List.setIfInBounds_toArray, List.set_cons_zero, List.set_cons_succ]
  refine' wpAnyH_take (i := 9) (oi := { dst := some 22, op := Go.Op.load 3 (Go.Operand.tmp 21), type := 3, pos := "machine.go:116", after := #[{ on := 8, ground := Go.Ground.data }], guard := none }) (v := _) rfl (by kernel_rfl) (by kernel_rfl) (by kernel_rfl) (fun _ _ _ h => h) (Or.inl ⟨by rfl, ?hy9⟩) (by assumption) ?rest9
  case hy9 =>
    intro wy hSy
    have SS := hSy
    obtain ⟨s0, s1⟩ := SS
    clear hSy
    go_simp
    try rfl
  simp only [Act.put, List.setIfInBounds_toArray, List.set_cons_zero, List.set_cons_succ]
  refine' wpAnyH_take (i := 10) (oi := { dst := some 23, op := Go.Op.binOp Go.BinOp.eql 3 (Go.Operand.tmp 22) (Go.Operand.const (Go.Value.int Go.IntKind.i64 2)) 3, type := 4, pos := "machine.go:116", after := #[{ on := 9, ground := Go.Ground.data }], guard := none }) (v := _) rfl (by kernel_rfl) (by kernel_rfl) (by kernel_rfl) (fun _ _ _ h => h) (Or.inl ⟨by rfl, ?hy10⟩) (by assumption) ?rest10
  case hy10 =>
    intro wy hSy
    clear hSy
    go_simp
    try rfl
  simp only [Act.put, List.setIfInBounds_toArray, List.set_cons_zero, List.set_cons_succ]
  refine wpAnyH_ready (rs := [4]) (by kernel_rfl) (by simp) ?_
  refine AllReadyH.cons (o := { dst := some 17, op := Go.Op.load 44 (Go.Operand.tmp 16), type := 44, pos := "machine.go:116", after := #[{ on := 3, ground := Go.Ground.data }], guard := none }) rfl (fun K hK => ?_) AllReadyH.nil
  go_simp
  refine hK.out _ _ hHeld (fun hHeld => ?_)
  clear hK K
  try simp only [Act.put, List.setIfInBounds_toArray, List.set_cons_zero, List.set_cons_succ]
  refine wpAnyH_ready (rs := [11]) (by kernel_rfl) (by simp) ?_
  refine AllReadyH.cons (o := { dst := some 24, op := Go.Op.call { callee := Go.Callee.value (Go.Operand.func 182), args := #[Go.Operand.tmp 17, Go.Operand.tmp 19, Go.Operand.tmp 20, Go.Operand.tmp 23], argTypes := #[44, 9, 3, 4] }, type := 261, pos := "machine.go:116", after := #[{ on := 4, ground := Go.Ground.data }, { on := 6, ground := Go.Ground.data }, { on := 7, ground := Go.Ground.data }, { on := 10, ground := Go.Ground.data }], guard := none }) rfl (fun K hK => ?_) AllReadyH.nil
  go_simp
  refine (CT.out _ HB0.out.drew).mono ?_
  rintro e w2 ⟨v2, rfl, hs2, hb2⟩
  have hbw : Below w.heap.size w w2 := (HB0.out.drew).trans (hb2.mono HB0.out.size)
  have hp2 := behind HPW.out ((Below.refl _ _).drew) hb2
  have hr2 := behind HRW.out ((Below.refl _ _).drew) hb2
  have ho2 := behind HOW.out ((Below.refl _ _).drew) hb2
  obtain ⟨e0, e1, e2, e3, ef, hpl2⟩ := state_cells hp2
  obtain ⟨r0, r1, r2, rf, hrl2⟩ := reply_cells hr2
  obtain ⟨u0, u1, u2, u3, uf, hul2⟩ := state_cells ho2
  obtain ⟨vo, vc, rfl⟩ := (hs2.reads (Nat.le_refl _)).slice
  have HS2 : (fun w' : World => w'.cell? ⟨w.heap.size, 0, none⟩ = some (.int .i64 1) ∧ w'.cell? ⟨w.heap.size, 1, none⟩ = some (.string a)) w2 := ⟨u0, u1⟩
  refine hK.out _ _ HS2 (fun hHeld => ?_)
  clear hK K
  try simp only [Act.put, List.setIfInBounds_toArray, List.set_cons_zero, List.set_cons_succ]
  refine' wpAnyH_take (i := 12) (oi := { dst := some 12, op := Go.Op.move (Go.Operand.tmp 24), type := 261, pos := "machine.go:116", after := #[{ on := 11, ground := Go.Ground.data }], guard := none }) (v := _) rfl (by kernel_rfl) (by kernel_rfl) (by kernel_rfl) (fun _ _ _ h => h) (Or.inl ⟨by rfl, ?hy11⟩) (by assumption) ?rest11
  case hy11 =>
    intro wy hSy
    clear hSy
    go_simp
    try rfl
  simp only [Act.put, List.setIfInBounds_toArray, List.set_cons_zero, List.set_cons_succ]
  refine' wpAnyH_take (i := 13) (oi := { dst := some 25, op := Go.Op.extract (Go.Operand.tmp 12) 0, type := 44, pos := "machine.go:116", after := #[{ on := 12, ground := Go.Ground.data }], guard := none }) (v := _) rfl (by kernel_rfl) (by kernel_rfl) (by kernel_rfl) (fun _ _ _ h => h) (Or.inl ⟨by rfl, ?hy12⟩) (by assumption) ?rest12
  case hy12 =>
    intro wy hSy
    clear hSy
    go_simp
    try rfl
  simp only [Act.put, List.setIfInBounds_toArray, List.set_cons_zero, List.set_cons_succ]
  refine' wpAnyH_take (i := 14) (oi := { dst := some 26, op := Go.Op.extract (Go.Operand.tmp 12) 1, type := 73, pos := "machine.go:116", after := #[{ on := 12, ground := Go.Ground.data }, { on := 18, ground := Go.Ground.gcOnly Go.Departure.lateStores }], guard := none }) (v := _) rfl (by kernel_rfl) (by kernel_rfl) (by kernel_rfl) (fun _ _ _ h => h) (Or.inl ⟨by rfl, ?hy13⟩) (by assumption) ?rest13
  case hy13 =>
    intro wy hSy
    clear hSy
    go_simp
    try rfl
  simp only [Act.put, List.setIfInBounds_toArray, List.set_cons_zero, List.set_cons_succ]
  refine' wpAnyH_take (i := 15) (oi := { dst := some 27, op := Go.Op.extract (Go.Operand.tmp 12) 2, type := 33, pos := "machine.go:116", after := #[{ on := 12, ground := Go.Ground.data }, { on := 19, ground := Go.Ground.gcOnly Go.Departure.lateStores }], guard := none }) (v := _) rfl (by kernel_rfl) (by kernel_rfl) (by kernel_rfl) (fun _ _ _ h => h) (Or.inl ⟨by rfl, ?hy14⟩) (by assumption) ?rest14
  case hy14 =>
    intro wy hSy
    clear hSy
    go_simp
    try rfl
  simp only [Act.put, List.setIfInBounds_toArray, List.set_cons_zero, List.set_cons_succ]
  refine' wpAnyH_take (i := 16) (oi := { dst := some 28, op := Go.Op.nilCheck (Go.Operand.tmp 13), type := 0, pos := "machine.go:116", after := #[{ on := 0, ground := Go.Ground.data }, { on := 0, ground := Go.Ground.phase }, { on := 1, ground := Go.Ground.phase }, { on := 2, ground := Go.Ground.phase }, { on := 3, ground := Go.Ground.phase }, { on := 4, ground := Go.Ground.phase }, { on := 5, ground := Go.Ground.phase }, { on := 6, ground := Go.Ground.phase }, { on := 7, ground := Go.Ground.phase }, { on := 8, ground := Go.Ground.phase }, { on := 9, ground := Go.Ground.phase }, { on := 10, ground := Go.Ground.phase }, { on := 11, ground := Go.Ground.phase }, { on := 12, ground := Go.Ground.phase }, { on := 13, ground := Go.Ground.phase }, { on := 14, ground := Go.Ground.textOnly Go.Departure.lateStores }, { on := 15, ground := Go.Ground.textOnly Go.Departure.lateStores }], guard := none }) (v := _) rfl (by kernel_rfl) (by kernel_rfl) (by kernel_rfl) (fun _ _ _ h => h) (Or.inl ⟨by rfl, ?hy15⟩) (by assumption) ?rest15
  case hy15 =>
    intro wy hSy
    clear hSy
    go_simp
    try rfl
  simp only [Act.put, List.setIfInBounds_toArray, List.set_cons_zero, List.set_cons_succ]
  refine' wpAnyH_take (i := 17) (oi := { dst := some 29, op := Go.Op.fieldAddr 48 (Go.Operand.tmp 28) 1, type := 0, pos := "machine.go:116", after := #[{ on := 16, ground := Go.Ground.data }, { on := 0, ground := Go.Ground.phase }, { on := 1, ground := Go.Ground.phase }, { on := 2, ground := Go.Ground.phase }, { on := 3, ground := Go.Ground.phase }, { on := 4, ground := Go.Ground.phase }, { on := 5, ground := Go.Ground.phase }, { on := 6, ground := Go.Ground.phase }, { on := 7, ground := Go.Ground.phase }, { on := 8, ground := Go.Ground.phase }, { on := 9, ground := Go.Ground.phase }, { on := 10, ground := Go.Ground.phase }, { on := 11, ground := Go.Ground.phase }, { on := 12, ground := Go.Ground.phase }, { on := 13, ground := Go.Ground.phase }, { on := 14, ground := Go.Ground.textOnly Go.Departure.lateStores }, { on := 15, ground := Go.Ground.textOnly Go.Departure.lateStores }], guard := none }) (v := _) rfl (by kernel_rfl) (by kernel_rfl) (by kernel_rfl) (fun _ _ _ h => h) (Or.inl ⟨by rfl, ?hy16⟩) (by assumption) ?rest16
  case hy16 =>
    intro wy hSy
    clear hSy
    go_simp
    try rfl
  simp only [Act.put, List.setIfInBounds_toArray, List.set_cons_zero, List.set_cons_succ]
  refine wpAnyH_ready (rs := [18]) (by kernel_rfl) (by simp) ?_
  refine AllReadyH.cons (o := { dst := none, op := Go.Op.store 44 (Go.Operand.tmp 29) (Go.Operand.tmp 25), type := 0, pos := "machine.go:116", after := #[{ on := 17, ground := Go.Ground.data }, { on := 13, ground := Go.Ground.data }, { on := 11, ground := Go.Ground.chain }, { on := 0, ground := Go.Ground.phase }, { on := 1, ground := Go.Ground.phase }, { on := 2, ground := Go.Ground.phase }, { on := 3, ground := Go.Ground.phase }, { on := 4, ground := Go.Ground.phase }, { on := 5, ground := Go.Ground.phase }, { on := 6, ground := Go.Ground.phase }, { on := 7, ground := Go.Ground.phase }, { on := 8, ground := Go.Ground.phase }, { on := 9, ground := Go.Ground.phase }, { on := 10, ground := Go.Ground.phase }, { on := 11, ground := Go.Ground.phase }, { on := 12, ground := Go.Ground.phase }, { on := 13, ground := Go.Ground.phase }, { on := 14, ground := Go.Ground.textOnly Go.Departure.lateStores }, { on := 15, ground := Go.Ground.textOnly Go.Departure.lateStores }], guard := none }) rfl (fun K hK => ?_) AllReadyH.nil
  go_simp
  have HS3 : (fun w' : World => w'.cell? ⟨w.heap.size, 0, none⟩ = some (.int .i64 1) ∧ w'.cell? ⟨w.heap.size, 1, none⟩ = some (.string a)) (w2.setCell ⟨p, 1, none⟩ (.slice vo j.length vc)) := ⟨(World.cell?_setCell_far _ _ _ _ (by simpa using hne)).trans u0, (World.cell?_setCell_far _ _ _ _ (by simpa using hne)).trans u1⟩
  refine hK.out _ _ HS3 (fun hHeld => ?_)
  clear hK K
  try simp only [Act.put, List.setIfInBounds_toArray, List.set_cons_zero, List.set_cons_succ]
  refine wpAnyH_ready (rs := [19]) (by kernel_rfl) (by simp) ?_
  refine AllReadyH.cons (o := { dst := none, op := Go.Op.store 73 (Go.Operand.tmp 6) (Go.Operand.tmp 26), type := 0, pos := "machine.go:116", after := #[{ on := 14, ground := Go.Ground.data }, { on := 18, ground := Go.Ground.chain }, { on := 0, ground := Go.Ground.phase }, { on := 1, ground := Go.Ground.phase }, { on := 2, ground := Go.Ground.phase }, { on := 3, ground := Go.Ground.phase }, { on := 4, ground := Go.Ground.phase }, { on := 5, ground := Go.Ground.phase }, { on := 6, ground := Go.Ground.phase }, { on := 7, ground := Go.Ground.phase }, { on := 8, ground := Go.Ground.phase }, { on := 9, ground := Go.Ground.phase }, { on := 10, ground := Go.Ground.phase }, { on := 11, ground := Go.Ground.phase }, { on := 12, ground := Go.Ground.phase }, { on := 13, ground := Go.Ground.phase }, { on := 14, ground := Go.Ground.phase }, { on := 15, ground := Go.Ground.textOnly Go.Departure.lateStores }, { on := 16, ground := Go.Ground.phase }, { on := 17, ground := Go.Ground.phase }, { on := 18, ground := Go.Ground.phase }], guard := none }) rfl (fun K hK => ?_) AllReadyH.nil
  go_simp
  have HS4 : (fun w' : World => w'.cell? ⟨w.heap.size, 0, none⟩ = some (.int .i64 1) ∧ w'.cell? ⟨w.heap.size, 1, none⟩ = some (.string a)) ((((w2.setCell ⟨p, 1, none⟩ (.slice vo j.length vc)).setCell ⟨w.heap.size + 1, 0, none⟩ (.int .i64 jc)).setCell ⟨w.heap.size + 1, 1, none⟩ (.int .i64 jn)).setCell ⟨w.heap.size + 1, 2, none⟩ (.string ⟨#[]⟩)) := ⟨(World.cell?_setCell_far _ _ _ _ (by simp)).trans ((World.cell?_setCell_far _ _ _ _ (by simp)).trans ((World.cell?_setCell_far _ _ _ _ (by simp)).trans HS3.1)), (World.cell?_setCell_far _ _ _ _ (by simp)).trans ((World.cell?_setCell_far _ _ _ _ (by simp)).trans ((World.cell?_setCell_far _ _ _ _ (by simp)).trans HS3.2))⟩
  refine hK.out _ _ HS4 (fun hHeld => ?_)
  clear hK K
  try simp only [Act.put, List.setIfInBounds_toArray, List.set_cons_zero, List.set_cons_succ]
  refine wpAnyH_done (by kernel_rfl) ?_ _
  have K1 := (HS.out.below hbw).setLocks (hs2.mono (Nat.zero_le _))
  have hr3 : (w2.setCell ⟨p, 1, none⟩ (.slice vo j.length vc)).heap[w.heap.size + 1]? = some (.cells #[.int .i64 0, .int .i64 0, .string ⟨#[]⟩] 73 (0, 0)) := (Below.heap_setCell _ _ _ _ (by simpa using hne2')).trans hr2
  obtain ⟨K2, hr4⟩ := K1.reply hr3 hne2' jc jn ⟨#[]⟩
  have KT := (touch_reply (r := w.heap.size + 1) ((TouchG.of_below hbw (Nat.le_refl _) (fun b => b = p)).setCell (a := ⟨p, 1, none⟩) (Or.inl rfl) (.slice vo j.length vc)) (Or.inr (by omega)) (.int .i64 jc) (.int .i64 jn) (.string ⟨#[]⟩))
  obtain ⟨W4, hW4⟩ : ∃ W4, W4 = (((w2.setCell ⟨p, 1, none⟩ (.slice vo j.length vc)).setCell ⟨w.heap.size + 1, 0, none⟩ (.int .i64 jc)).setCell ⟨w.heap.size + 1, 1, none⟩ (.int .i64 jn)).setCell ⟨w.heap.size + 1, 2, none⟩ (.string ⟨#[]⟩) := ⟨_, rfl⟩
  rw [← hW4] at K2 hr4 KT ⊢
  obtain ⟨q0, q1, q2, qf, hql⟩ := reply_cells hr4
  have KF := ghid (K2.reply hr4 hne2' jc jn ⟨#[]⟩).1
  have HT := ghid (touch_reply (r := w.heap.size + 1) KT (Or.inr (by omega)) (.int .i64 jc) (.int .i64 jn) (.string ⟨#[]⟩))
  clear hb2 hs2 hp2 hr2 ho2 hr3 hr4 K1 K2 KT hbw hW4 e0 e1 e2 e3 ef r0 r1 r2 rf u0 u1 u2 u3 uf HS2 HS3 HS4 hHeld a0 a1 a2 a3 af o0 o1 o2 o3 of
  go_wp2
  refine bodyPost_ret (v := .agg #[.int .i64 jc, .int .i64 jn, .string ⟨#[]⟩]) (by simp [results, Tryz.results141, go_sem, q0, q1, q2]) rfl ⟨rfl, ?_, ?_⟩
  · exact KF.out
  · exact HT.out

set_option maxRecDepth 100000 in
set_option maxHeartbeats 3200000 in
theorem moper_line (p : Nat) (s : StateD) (c : Int) (a b : ByteArray) (n : Int) (w : World) (h : StB w p s) (hr : refuseL s.locks a c = 0) (ha : a.size ≤ 140737488351232) :
    Calls Tryz.prog 141 #[.pointer (some ⟨p, 0, none⟩), .int .i64 c, .agg #[.int .i64 2, .string a, .string b, .int .i64 n]] w fun e w' => e = .returned (.agg #[.int .i64 (takeL s.locks a c true).2.1, .int .i64 (takeL s.locks a c true).2.2, .string ⟨#[]⟩]) ∧ StB w' p { s with locks := (takeL s.locks a c true).1 } ∧ TouchG w w' (fun b => b = p) := by
  have HS := ghid h
  obtain ⟨lo, po, so, ln, lc, pn, pc, sn, sc, h0, h1, h2, h3⟩ := h
  have CT := ghid (fun (w' : World) (hb : Below w.heap.size w w') => Take_own (.slice lo ln lc) s.locks a c true w' w.heap.size ((h1.reads (Nat.le_refl _)).below hb (Nat.le_refl _)) hb.size ha hr)
  obtain ⟨⟨j, jc, jn⟩, hj⟩ : ∃ q, q = takeL s.locks a c true := ⟨_, rfl⟩
  rw [← hj] at CT ⊢
  simp only [replyV] at CT ⊢
  have HP := ghid h0
  obtain ⟨d0, d1, d2, d3, df, hpl⟩ := state_cells h0
  have hne : p ≠ w.heap.size := by omega
  have hne' : w.heap.size ≠ p := by omega
  have hne2 : p ≠ w.heap.size + 1 := by omega
  have hne2' : w.heap.size + 1 ≠ p := by omega
  have HB0 : Hid (Below w.heap.size w ((w.alloc (.cells #[.int .i64 2, .string a, .string b, .int .i64 n] 38)).alloc (.cells #[.int .i64 0, .int .i64 0, .string ⟨#[]⟩] 73))) := ((Below.refl w.heap.size w).alloc (Nat.le_refl _) _).alloc (by simp) _
  have hpW := behind HP.out (Below.refl _ _) HB0.out
  obtain ⟨hrW, hoW⟩ := two_newB (Below.refl (w.heap.size + 2) ((w.alloc (.cells #[.int .i64 2, .string a, .string b, .int .i64 n] 38)).alloc (.cells #[.int .i64 0, .int .i64 0, .string ⟨#[]⟩] 73)))
  obtain ⟨a0, a1, a2, a3, af, hplW⟩ := state_cells hpW
  obtain ⟨o0, o1, o2, o3, of, holW⟩ := state_cells hoW
  obtain ⟨W0, hW0⟩ : ∃ W0, W0 = (w.alloc (.cells #[.int .i64 2, .string a, .string b, .int .i64 n] 38)).alloc (.cells #[.int .i64 0, .int .i64 0, .string ⟨#[]⟩] 73) := ⟨_, rfl⟩
  rw [← hW0] at HB0 hpW hrW hoW a0 a1 a2 a3 af hplW o0 o1 o2 o3 of holW
  have HW0 := ghid hW0
  have HPW := ghid hpW
  have HRW := ghid hrW
  have HOW := ghid hoW
  clear h0 h1 h2 h3 hj hr hpW hrW hoW hW0 d0 d1 d2 d3 df
  go_enter Tryz.func141, Tryz.ntmps141
  go_upto_region 4 with fail
  rw [← HW0.out]
  clear HW0
  refine wp_region_held_drew (S := (fun w' : World => w'.cell? ⟨w.heap.size, 0, none⟩ = some (.int .i64 2) ∧ w'.cell? ⟨w.heap.size, 1, none⟩ = some (.string a))) (by kernel_rfl) ⟨o0, o1⟩ (fun hHeld => ?_)
  refine' wpAnyH_take (i := 0) (oi := { dst := some 13, op := Go.Op.move (Go.Operand.tmp 0), type := 133, pos := "machine.go:116", after := #[], guard := none }) (v := _) rfl (by kernel_rfl) (by kernel_rfl) (by kernel_rfl) (fun _ _ _ h => h) (Or.inl ⟨by rfl, ?hy17⟩) (by assumption) ?rest17
  case hy17 =>
    intro wy hSy
    clear hSy
    go_simp
    try rfl
  simp only [Act.put, List.setIfInBounds_toArray, List.set_cons_zero, List.set_cons_succ]
  refine' wpAnyH_take (i := 1) (oi := { dst := some 14, op := Go.Op.move (Go.Operand.tmp 0), type := 133, pos := "machine.go:116", after := #[], guard := none }) (v := _) rfl (by kernel_rfl) (by kernel_rfl) (by kernel_rfl) (fun _ _ _ h => h) (Or.inl ⟨by rfl, ?hy18⟩) (by assumption) ?rest18
  case hy18 =>
    intro wy hSy
    clear hSy
    go_simp
    try rfl
  simp only [Act.put, List.setIfInBounds_toArray, List.set_cons_zero, List.set_cons_succ]
  refine' wpAnyH_take (i := 2) (oi := { dst := some 15, op := Go.Op.nilCheck (Go.Operand.tmp 14), type := 0, pos := "machine.go:116", after := #[{ on := 1, ground := Go.Ground.data }], guard := none }) (v := _) rfl (by kernel_rfl) (by kernel_rfl) (by kernel_rfl) (fun _ _ _ h => h) (Or.inl ⟨by rfl, ?hy19⟩) (by assumption) ?rest19
  case hy19 =>
    intro wy hSy
    clear hSy
    go_simp
    try rfl
  simp only [Act.put, List.setIfInBounds_toArray, List.set_cons_zero, List.set_cons_succ]
  refine' wpAnyH_take (i := 3) (oi := { dst := some 16, op := Go.Op.fieldAddr 48 (Go.Operand.tmp 15) 1, type := 0, pos := "machine.go:116", after := #[{ on := 2, ground := Go.Ground.data }], guard := none }) (v := _) rfl (by kernel_rfl) (by kernel_rfl) (by kernel_rfl) (fun _ _ _ h => h) (Or.inl ⟨by rfl, ?hy20⟩) (by assumption) ?rest20
  case hy20 =>
    intro wy hSy
    clear hSy
    go_simp
    try rfl
  simp only [Act.put, List.setIfInBounds_toArray, List.set_cons_zero, List.set_cons_succ]
  refine' wpAnyH_take (i := 5) (oi := { dst := some 18, op := Go.Op.fieldAddr 38 (Go.Operand.tmp 5) 1, type := 0, pos := "machine.go:116", after := #[], guard := none }) (v := _) rfl (by kernel_rfl) (by kernel_rfl) (by kernel_rfl) (fun _ _ _ h => h) (Or.inl ⟨by rfl, ?hy21⟩) (by assumption) ?rest21
  case hy21 =>
    intro wy hSy
    clear hSy
    go_simp
    try rfl
  simp only [Act.put, List.setIfInBounds_toArray, List.set_cons_zero, List.set_cons_succ]
  refine' wpAnyH_take (i := 6) (oi := { dst := some 19, op := Go.Op.load 9 (Go.Operand.tmp 18), type := 9, pos := "machine.go:116", after := #[{ on := 5, ground := Go.Ground.data }], guard := none }) (v := _) rfl (by kernel_rfl) (by kernel_rfl) (by kernel_rfl) (fun _ _ _ h => h) (Or.inl ⟨by rfl, ?hy22⟩) (by assumption) ?rest22
  case hy22 =>
    intro wy hSy
    have SS := hSy
    obtain ⟨s0, s1⟩ := SS
    clear hSy
    go_simp
    try rfl
  simp only [Act.put, List.setIfInBounds_toArray, List.set_cons_zero, List.set_cons_succ]
  refine' wpAnyH_take (i := 7) (oi := { dst := some 20, op := Go.Op.move (Go.Operand.tmp 1), type := 3, pos := "machine.go:116", after := #[], guard := none }) (v := _) rfl (by kernel_rfl) (by kernel_rfl) (by kernel_rfl) (fun _ _ _ h => h) (Or.inl ⟨by rfl, ?hy23⟩) (by assumption) ?rest23
  case hy23 =>
    intro wy hSy
    clear hSy
    go_simp
    try rfl
  simp only [Act.put, List.setIfInBounds_toArray, List.set_cons_zero, List.set_cons_succ]
  refine' wpAnyH_take (i := 8) (oi := { dst := some 21, op := Go.Op.fieldAddr 38 (Go.Operand.tmp 5) 0, type := 0, pos := "machine.go:116", after := #[], guard := none }) (v := _) rfl (by kernel_rfl) (by kernel_rfl) (by kernel_rfl) (fun _ _ _ h => h) (Or.inl ⟨by rfl, ?hy24⟩) (by assumption) ?rest24
  case hy24 =>
    intro wy hSy
    clear hSy
    go_simp
    try rfl
  simp only [Act.put, List.setIfInBounds_toArray, List.set_cons_zero, List.set_cons_succ]
  refine' wpAnyH_take (i := 9) (oi := { dst := some 22, op := Go.Op.load 3 (Go.Operand.tmp 21), type := 3, pos := "machine.go:116", after := #[{ on := 8, ground := Go.Ground.data }], guard := none }) (v := _) rfl (by kernel_rfl) (by kernel_rfl) (by kernel_rfl) (fun _ _ _ h => h) (Or.inl ⟨by rfl, ?hy25⟩) (by assumption) ?rest25
  case hy25 =>
    intro wy hSy
    have SS := hSy
    obtain ⟨s0, s1⟩ := SS
    clear hSy
    go_simp
    try rfl
  simp only [Act.put, List.setIfInBounds_toArray, List.set_cons_zero, List.set_cons_succ]
  refine' wpAnyH_take (i := 10) (oi := { dst := some 23, op := Go.Op.binOp Go.BinOp.eql 3 (Go.Operand.tmp 22) (Go.Operand.const (Go.Value.int Go.IntKind.i64 2)) 3, type := 4, pos := "machine.go:116", after := #[{ on := 9, ground := Go.Ground.data }], guard := none }) (v := _) rfl (by kernel_rfl) (by kernel_rfl) (by kernel_rfl) (fun _ _ _ h => h) (Or.inl ⟨by rfl, ?hy26⟩) (by assumption) ?rest26
  case hy26 =>
    intro wy hSy
    clear hSy
    go_simp
    try rfl
  simp only [Act.put, List.setIfInBounds_toArray, List.set_cons_zero, List.set_cons_succ]
  refine wpAnyH_ready (rs := [4]) (by kernel_rfl) (by simp) ?_
  refine AllReadyH.cons (o := { dst := some 17, op := Go.Op.load 44 (Go.Operand.tmp 16), type := 44, pos := "machine.go:116", after := #[{ on := 3, ground := Go.Ground.data }], guard := none }) rfl (fun K hK => ?_) AllReadyH.nil
  go_simp
  refine hK.out _ _ hHeld (fun hHeld => ?_)
  clear hK K
  try simp only [Act.put, List.setIfInBounds_toArray, List.set_cons_zero, List.set_cons_succ]
  refine wpAnyH_ready (rs := [11]) (by kernel_rfl) (by simp) ?_
  refine AllReadyH.cons (o := { dst := some 24, op := Go.Op.call { callee := Go.Callee.value (Go.Operand.func 182), args := #[Go.Operand.tmp 17, Go.Operand.tmp 19, Go.Operand.tmp 20, Go.Operand.tmp 23], argTypes := #[44, 9, 3, 4] }, type := 261, pos := "machine.go:116", after := #[{ on := 4, ground := Go.Ground.data }, { on := 6, ground := Go.Ground.data }, { on := 7, ground := Go.Ground.data }, { on := 10, ground := Go.Ground.data }], guard := none }) rfl (fun K hK => ?_) AllReadyH.nil
  go_simp
  refine (CT.out _ HB0.out.drew).mono ?_
  rintro e w2 ⟨v2, rfl, hs2, hb2⟩
  have hbw : Below w.heap.size w w2 := (HB0.out.drew).trans (hb2.mono HB0.out.size)
  have hp2 := behind HPW.out ((Below.refl _ _).drew) hb2
  have hr2 := behind HRW.out ((Below.refl _ _).drew) hb2
  have ho2 := behind HOW.out ((Below.refl _ _).drew) hb2
  obtain ⟨e0, e1, e2, e3, ef, hpl2⟩ := state_cells hp2
  obtain ⟨r0, r1, r2, rf, hrl2⟩ := reply_cells hr2
  obtain ⟨u0, u1, u2, u3, uf, hul2⟩ := state_cells ho2
  obtain ⟨vo, vc, rfl⟩ := (hs2.reads (Nat.le_refl _)).slice
  have HS2 : (fun w' : World => w'.cell? ⟨w.heap.size, 0, none⟩ = some (.int .i64 2) ∧ w'.cell? ⟨w.heap.size, 1, none⟩ = some (.string a)) w2 := ⟨u0, u1⟩
  refine hK.out _ _ HS2 (fun hHeld => ?_)
  clear hK K
  try simp only [Act.put, List.setIfInBounds_toArray, List.set_cons_zero, List.set_cons_succ]
  refine' wpAnyH_take (i := 12) (oi := { dst := some 12, op := Go.Op.move (Go.Operand.tmp 24), type := 261, pos := "machine.go:116", after := #[{ on := 11, ground := Go.Ground.data }], guard := none }) (v := _) rfl (by kernel_rfl) (by kernel_rfl) (by kernel_rfl) (fun _ _ _ h => h) (Or.inl ⟨by rfl, ?hy27⟩) (by assumption) ?rest27
  case hy27 =>
    intro wy hSy
    clear hSy
    go_simp
    try rfl
  simp only [Act.put, List.setIfInBounds_toArray, List.set_cons_zero, List.set_cons_succ]
  refine' wpAnyH_take (i := 13) (oi := { dst := some 25, op := Go.Op.extract (Go.Operand.tmp 12) 0, type := 44, pos := "machine.go:116", after := #[{ on := 12, ground := Go.Ground.data }], guard := none }) (v := _) rfl (by kernel_rfl) (by kernel_rfl) (by kernel_rfl) (fun _ _ _ h => h) (Or.inl ⟨by rfl, ?hy28⟩) (by assumption) ?rest28
  case hy28 =>
    intro wy hSy
    clear hSy
    go_simp
    try rfl
  simp only [Act.put, List.setIfInBounds_toArray, List.set_cons_zero, List.set_cons_succ]
  refine' wpAnyH_take (i := 14) (oi := { dst := some 26, op := Go.Op.extract (Go.Operand.tmp 12) 1, type := 73, pos := "machine.go:116", after := #[{ on := 12, ground := Go.Ground.data }, { on := 18, ground := Go.Ground.gcOnly Go.Departure.lateStores }], guard := none }) (v := _) rfl (by kernel_rfl) (by kernel_rfl) (by kernel_rfl) (fun _ _ _ h => h) (Or.inl ⟨by rfl, ?hy29⟩) (by assumption) ?rest29
  case hy29 =>
    intro wy hSy
    clear hSy
    go_simp
    try rfl
  simp only [Act.put, List.setIfInBounds_toArray, List.set_cons_zero, List.set_cons_succ]
  refine' wpAnyH_take (i := 15) (oi := { dst := some 27, op := Go.Op.extract (Go.Operand.tmp 12) 2, type := 33, pos := "machine.go:116", after := #[{ on := 12, ground := Go.Ground.data }, { on := 19, ground := Go.Ground.gcOnly Go.Departure.lateStores }], guard := none }) (v := _) rfl (by kernel_rfl) (by kernel_rfl) (by kernel_rfl) (fun _ _ _ h => h) (Or.inl ⟨by rfl, ?hy30⟩) (by assumption) ?rest30
  case hy30 =>
    intro wy hSy
    clear hSy
    go_simp
    try rfl
  simp only [Act.put, List.setIfInBounds_toArray, List.set_cons_zero, List.set_cons_succ]
  refine' wpAnyH_take (i := 16) (oi := { dst := some 28, op := Go.Op.nilCheck (Go.Operand.tmp 13), type := 0, pos := "machine.go:116", after := #[{ on := 0, ground := Go.Ground.data }, { on := 0, ground := Go.Ground.phase }, { on := 1, ground := Go.Ground.phase }, { on := 2, ground := Go.Ground.phase }, { on := 3, ground := Go.Ground.phase }, { on := 4, ground := Go.Ground.phase }, { on := 5, ground := Go.Ground.phase }, { on := 6, ground := Go.Ground.phase }, { on := 7, ground := Go.Ground.phase }, { on := 8, ground := Go.Ground.phase }, { on := 9, ground := Go.Ground.phase }, { on := 10, ground := Go.Ground.phase }, { on := 11, ground := Go.Ground.phase }, { on := 12, ground := Go.Ground.phase }, { on := 13, ground := Go.Ground.phase }, { on := 14, ground := Go.Ground.textOnly Go.Departure.lateStores }, { on := 15, ground := Go.Ground.textOnly Go.Departure.lateStores }], guard := none }) (v := _) rfl (by kernel_rfl) (by kernel_rfl) (by kernel_rfl) (fun _ _ _ h => h) (Or.inl ⟨by rfl, ?hy31⟩) (by assumption) ?rest31
  case hy31 =>
    intro wy hSy
    clear hSy
    go_simp
    try rfl
  simp only [Act.put, List.setIfInBounds_toArray, List.set_cons_zero, List.set_cons_succ]
  refine' wpAnyH_take (i := 17) (oi := { dst := some 29, op := Go.Op.fieldAddr 48 (Go.Operand.tmp 28) 1, type := 0, pos := "machine.go:116", after := #[{ on := 16, ground := Go.Ground.data }, { on := 0, ground := Go.Ground.phase }, { on := 1, ground := Go.Ground.phase }, { on := 2, ground := Go.Ground.phase }, { on := 3, ground := Go.Ground.phase }, { on := 4, ground := Go.Ground.phase }, { on := 5, ground := Go.Ground.phase }, { on := 6, ground := Go.Ground.phase }, { on := 7, ground := Go.Ground.phase }, { on := 8, ground := Go.Ground.phase }, { on := 9, ground := Go.Ground.phase }, { on := 10, ground := Go.Ground.phase }, { on := 11, ground := Go.Ground.phase }, { on := 12, ground := Go.Ground.phase }, { on := 13, ground := Go.Ground.phase }, { on := 14, ground := Go.Ground.textOnly Go.Departure.lateStores }, { on := 15, ground := Go.Ground.textOnly Go.Departure.lateStores }], guard := none }) (v := _) rfl (by kernel_rfl) (by kernel_rfl) (by kernel_rfl) (fun _ _ _ h => h) (Or.inl ⟨by rfl, ?hy32⟩) (by assumption) ?rest32
  case hy32 =>
    intro wy hSy
    clear hSy
    go_simp
    try rfl
  simp only [Act.put, List.setIfInBounds_toArray, List.set_cons_zero, List.set_cons_succ]
  refine wpAnyH_ready (rs := [18]) (by kernel_rfl) (by simp) ?_
  refine AllReadyH.cons (o := { dst := none, op := Go.Op.store 44 (Go.Operand.tmp 29) (Go.Operand.tmp 25), type := 0, pos := "machine.go:116", after := #[{ on := 17, ground := Go.Ground.data }, { on := 13, ground := Go.Ground.data }, { on := 11, ground := Go.Ground.chain }, { on := 0, ground := Go.Ground.phase }, { on := 1, ground := Go.Ground.phase }, { on := 2, ground := Go.Ground.phase }, { on := 3, ground := Go.Ground.phase }, { on := 4, ground := Go.Ground.phase }, { on := 5, ground := Go.Ground.phase }, { on := 6, ground := Go.Ground.phase }, { on := 7, ground := Go.Ground.phase }, { on := 8, ground := Go.Ground.phase }, { on := 9, ground := Go.Ground.phase }, { on := 10, ground := Go.Ground.phase }, { on := 11, ground := Go.Ground.phase }, { on := 12, ground := Go.Ground.phase }, { on := 13, ground := Go.Ground.phase }, { on := 14, ground := Go.Ground.textOnly Go.Departure.lateStores }, { on := 15, ground := Go.Ground.textOnly Go.Departure.lateStores }], guard := none }) rfl (fun K hK => ?_) AllReadyH.nil
  go_simp
  have HS3 : (fun w' : World => w'.cell? ⟨w.heap.size, 0, none⟩ = some (.int .i64 2) ∧ w'.cell? ⟨w.heap.size, 1, none⟩ = some (.string a)) (w2.setCell ⟨p, 1, none⟩ (.slice vo j.length vc)) := ⟨(World.cell?_setCell_far _ _ _ _ (by simpa using hne)).trans u0, (World.cell?_setCell_far _ _ _ _ (by simpa using hne)).trans u1⟩
  refine hK.out _ _ HS3 (fun hHeld => ?_)
  clear hK K
  try simp only [Act.put, List.setIfInBounds_toArray, List.set_cons_zero, List.set_cons_succ]
  refine wpAnyH_ready (rs := [19]) (by kernel_rfl) (by simp) ?_
  refine AllReadyH.cons (o := { dst := none, op := Go.Op.store 73 (Go.Operand.tmp 6) (Go.Operand.tmp 26), type := 0, pos := "machine.go:116", after := #[{ on := 14, ground := Go.Ground.data }, { on := 18, ground := Go.Ground.chain }, { on := 0, ground := Go.Ground.phase }, { on := 1, ground := Go.Ground.phase }, { on := 2, ground := Go.Ground.phase }, { on := 3, ground := Go.Ground.phase }, { on := 4, ground := Go.Ground.phase }, { on := 5, ground := Go.Ground.phase }, { on := 6, ground := Go.Ground.phase }, { on := 7, ground := Go.Ground.phase }, { on := 8, ground := Go.Ground.phase }, { on := 9, ground := Go.Ground.phase }, { on := 10, ground := Go.Ground.phase }, { on := 11, ground := Go.Ground.phase }, { on := 12, ground := Go.Ground.phase }, { on := 13, ground := Go.Ground.phase }, { on := 14, ground := Go.Ground.phase }, { on := 15, ground := Go.Ground.textOnly Go.Departure.lateStores }, { on := 16, ground := Go.Ground.phase }, { on := 17, ground := Go.Ground.phase }, { on := 18, ground := Go.Ground.phase }], guard := none }) rfl (fun K hK => ?_) AllReadyH.nil
  go_simp
  have HS4 : (fun w' : World => w'.cell? ⟨w.heap.size, 0, none⟩ = some (.int .i64 2) ∧ w'.cell? ⟨w.heap.size, 1, none⟩ = some (.string a)) ((((w2.setCell ⟨p, 1, none⟩ (.slice vo j.length vc)).setCell ⟨w.heap.size + 1, 0, none⟩ (.int .i64 jc)).setCell ⟨w.heap.size + 1, 1, none⟩ (.int .i64 jn)).setCell ⟨w.heap.size + 1, 2, none⟩ (.string ⟨#[]⟩)) := ⟨(World.cell?_setCell_far _ _ _ _ (by simp)).trans ((World.cell?_setCell_far _ _ _ _ (by simp)).trans ((World.cell?_setCell_far _ _ _ _ (by simp)).trans HS3.1)), (World.cell?_setCell_far _ _ _ _ (by simp)).trans ((World.cell?_setCell_far _ _ _ _ (by simp)).trans ((World.cell?_setCell_far _ _ _ _ (by simp)).trans HS3.2))⟩
  refine hK.out _ _ HS4 (fun hHeld => ?_)
  clear hK K
  try simp only [Act.put, List.setIfInBounds_toArray, List.set_cons_zero, List.set_cons_succ]
  refine wpAnyH_done (by kernel_rfl) ?_ _
  have K1 := (HS.out.below hbw).setLocks (hs2.mono (Nat.zero_le _))
  have hr3 : (w2.setCell ⟨p, 1, none⟩ (.slice vo j.length vc)).heap[w.heap.size + 1]? = some (.cells #[.int .i64 0, .int .i64 0, .string ⟨#[]⟩] 73 (0, 0)) := (Below.heap_setCell _ _ _ _ (by simpa using hne2')).trans hr2
  obtain ⟨K2, hr4⟩ := K1.reply hr3 hne2' jc jn ⟨#[]⟩
  have KT := (touch_reply (r := w.heap.size + 1) ((TouchG.of_below hbw (Nat.le_refl _) (fun b => b = p)).setCell (a := ⟨p, 1, none⟩) (Or.inl rfl) (.slice vo j.length vc)) (Or.inr (by omega)) (.int .i64 jc) (.int .i64 jn) (.string ⟨#[]⟩))
  obtain ⟨W4, hW4⟩ : ∃ W4, W4 = (((w2.setCell ⟨p, 1, none⟩ (.slice vo j.length vc)).setCell ⟨w.heap.size + 1, 0, none⟩ (.int .i64 jc)).setCell ⟨w.heap.size + 1, 1, none⟩ (.int .i64 jn)).setCell ⟨w.heap.size + 1, 2, none⟩ (.string ⟨#[]⟩) := ⟨_, rfl⟩
  rw [← hW4] at K2 hr4 KT ⊢
  obtain ⟨q0, q1, q2, qf, hql⟩ := reply_cells hr4
  have KF := ghid (K2.reply hr4 hne2' jc jn ⟨#[]⟩).1
  have HT := ghid (touch_reply (r := w.heap.size + 1) KT (Or.inr (by omega)) (.int .i64 jc) (.int .i64 jn) (.string ⟨#[]⟩))
  clear hb2 hs2 hp2 hr2 ho2 hr3 hr4 K1 K2 KT hbw hW4 e0 e1 e2 e3 ef r0 r1 r2 rf u0 u1 u2 u3 uf HS2 HS3 HS4 hHeld a0 a1 a2 a3 af o0 o1 o2 o3 of
  go_wp2
  refine bodyPost_ret (v := .agg #[.int .i64 jc, .int .i64 jn, .string ⟨#[]⟩]) (by simp [results, Tryz.results141, go_sem, q0, q1, q2]) rfl ⟨rfl, ?_, ?_⟩
  · exact KF.out
  · exact HT.out

set_option maxRecDepth 100000 in
set_option maxHeartbeats 3200000 in
theorem moper_free (p : Nat) (s : StateD) (c : Int) (a b : ByteArray) (n : Int) (w : World) (h : StB w p s) (hr : refuseL s.locks a c = 0) (ha : a.size ≤ 140737488351232) :
    Calls Tryz.prog 141 #[.pointer (some ⟨p, 0, none⟩), .int .i64 c, .agg #[.int .i64 3, .string a, .string b, .int .i64 n]] w fun e w' => e = .returned (.agg #[.int .i64 (freeL s.locks a c).2.1, .int .i64 (freeL s.locks a c).2.2, .string ⟨#[]⟩]) ∧ StB w' p { s with locks := (freeL s.locks a c).1 } ∧ TouchG w w' (fun b => b = p) := by
  have HS := ghid h
  obtain ⟨lo, po, so, ln, lc, pn, pc, sn, sc, h0, h1, h2, h3⟩ := h
  have CT := ghid (fun (w' : World) (hb : Below w.heap.size w w') => Free_own (.slice lo ln lc) s.locks a c w' w.heap.size ((h1.reads (Nat.le_refl _)).below hb (Nat.le_refl _)) hb.size ha hr)
  obtain ⟨⟨j, jc, jn⟩, hj⟩ : ∃ q, q = freeL s.locks a c := ⟨_, rfl⟩
  rw [← hj] at CT ⊢
  simp only [replyV] at CT ⊢
  have HP := ghid h0
  obtain ⟨d0, d1, d2, d3, df, hpl⟩ := state_cells h0
  have hne : p ≠ w.heap.size := by omega
  have hne' : w.heap.size ≠ p := by omega
  have hne2 : p ≠ w.heap.size + 1 := by omega
  have hne2' : w.heap.size + 1 ≠ p := by omega
  have HB0 : Hid (Below w.heap.size w ((w.alloc (.cells #[.int .i64 3, .string a, .string b, .int .i64 n] 38)).alloc (.cells #[.int .i64 0, .int .i64 0, .string ⟨#[]⟩] 73))) := ((Below.refl w.heap.size w).alloc (Nat.le_refl _) _).alloc (by simp) _
  have hpW := behind HP.out (Below.refl _ _) HB0.out
  obtain ⟨hrW, hoW⟩ := two_newB (Below.refl (w.heap.size + 2) ((w.alloc (.cells #[.int .i64 3, .string a, .string b, .int .i64 n] 38)).alloc (.cells #[.int .i64 0, .int .i64 0, .string ⟨#[]⟩] 73)))
  obtain ⟨a0, a1, a2, a3, af, hplW⟩ := state_cells hpW
  obtain ⟨o0, o1, o2, o3, of, holW⟩ := state_cells hoW
  obtain ⟨W0, hW0⟩ : ∃ W0, W0 = (w.alloc (.cells #[.int .i64 3, .string a, .string b, .int .i64 n] 38)).alloc (.cells #[.int .i64 0, .int .i64 0, .string ⟨#[]⟩] 73) := ⟨_, rfl⟩
  rw [← hW0] at HB0 hpW hrW hoW a0 a1 a2 a3 af hplW o0 o1 o2 o3 of holW
  have HW0 := ghid hW0
  have HPW := ghid hpW
  have HRW := ghid hrW
  have HOW := ghid hoW
  clear h0 h1 h2 h3 hj hr hpW hrW hoW hW0 d0 d1 d2 d3 df
  go_enter Tryz.func141, Tryz.ntmps141
  go_upto_region 6 with fail
  rw [← HW0.out]
  clear HW0
  refine wp_region_held_drew (S := (fun w' : World => w'.cell? ⟨w.heap.size, 0, none⟩ = some (.int .i64 3) ∧ w'.cell? ⟨w.heap.size, 1, none⟩ = some (.string a))) (by kernel_rfl) ⟨o0, o1⟩ (fun hHeld => ?_)
  refine' wpAnyH_take (i := 0) (oi := { dst := some 33, op := Go.Op.move (Go.Operand.tmp 0), type := 133, pos := "machine.go:118", after := #[], guard := none }) (v := _) rfl (by kernel_rfl) (by kernel_rfl) (by kernel_rfl) (fun _ _ _ h => h) (Or.inl ⟨by rfl, ?hy33⟩) (by assumption) ?rest33
  case hy33 =>
    intro wy hSy
    clear hSy
    go_simp
    try rfl
  simp only [Act.put, List.setIfInBounds_toArray, List.set_cons_zero, List.set_cons_succ]
  refine' wpAnyH_take (i := 1) (oi := { dst := some 34, op := Go.Op.move (Go.Operand.tmp 0), type := 133, pos := "machine.go:118", after := #[], guard := none }) (v := _) rfl (by kernel_rfl) (by kernel_rfl) (by kernel_rfl) (fun _ _ _ h => h) (Or.inl ⟨by rfl, ?hy34⟩) (by assumption) ?rest34
  case hy34 =>
    intro wy hSy
    clear hSy
    go_simp
    try rfl
  simp only [Act.put, List.setIfInBounds_toArray, List.set_cons_zero, List.set_cons_succ]
  refine' wpAnyH_take (i := 2) (oi := { dst := some 35, op := Go.Op.nilCheck (Go.Operand.tmp 34), type := 0, pos := "machine.go:118", after := #[{ on := 1, ground := Go.Ground.data }], guard := none }) (v := _) rfl (by kernel_rfl) (by kernel_rfl) (by kernel_rfl) (fun _ _ _ h => h) (Or.inl ⟨by rfl, ?hy35⟩) (by assumption) ?rest35
  case hy35 =>
    intro wy hSy
    clear hSy
    go_simp
    try rfl
  simp only [Act.put, List.setIfInBounds_toArray, List.set_cons_zero, List.set_cons_succ]
  refine' wpAnyH_take (i := 3) (oi := { dst := some 36, op := Go.Op.fieldAddr 48 (Go.Operand.tmp 35) 1, type := 0, pos := "machine.go:118", after := #[{ on := 2, ground := Go.Ground.data }], guard := none }) (v := _) rfl (by kernel_rfl) (by kernel_rfl) (by kernel_rfl) (fun _ _ _ h => h) (Or.inl ⟨by rfl, ?hy36⟩) (by assumption) ?rest36
  case hy36 =>
    intro wy hSy
    clear hSy
    go_simp
    try rfl
  simp only [Act.put, List.setIfInBounds_toArray, List.set_cons_zero, List.set_cons_succ]
  refine' wpAnyH_take (i := 5) (oi := { dst := some 38, op := Go.Op.fieldAddr 38 (Go.Operand.tmp 5) 1, type := 0, pos := "machine.go:118", after := #[], guard := none }) (v := _) rfl (by kernel_rfl) (by kernel_rfl) (by kernel_rfl) (fun _ _ _ h => h) (Or.inl ⟨by rfl, ?hy37⟩) (by assumption) ?rest37
  case hy37 =>
    intro wy hSy
    clear hSy
    go_simp
    try rfl
  simp only [Act.put, List.setIfInBounds_toArray, List.set_cons_zero, List.set_cons_succ]
  refine' wpAnyH_take (i := 6) (oi := { dst := some 39, op := Go.Op.load 9 (Go.Operand.tmp 38), type := 9, pos := "machine.go:118", after := #[{ on := 5, ground := Go.Ground.data }], guard := none }) (v := _) rfl (by kernel_rfl) (by kernel_rfl) (by kernel_rfl) (fun _ _ _ h => h) (Or.inl ⟨by rfl, ?hy38⟩) (by assumption) ?rest38
  case hy38 =>
    intro wy hSy
    have SS := hSy
    obtain ⟨s0, s1⟩ := SS
    clear hSy
    go_simp
    try rfl
  simp only [Act.put, List.setIfInBounds_toArray, List.set_cons_zero, List.set_cons_succ]
  refine' wpAnyH_take (i := 7) (oi := { dst := some 40, op := Go.Op.move (Go.Operand.tmp 1), type := 3, pos := "machine.go:118", after := #[], guard := none }) (v := _) rfl (by kernel_rfl) (by kernel_rfl) (by kernel_rfl) (fun _ _ _ h => h) (Or.inl ⟨by rfl, ?hy39⟩) (by assumption) ?rest39
  case hy39 =>
    intro wy hSy
    clear hSy
    go_simp
    try rfl
  simp only [Act.put, List.setIfInBounds_toArray, List.set_cons_zero, List.set_cons_succ]
  refine wpAnyH_ready (rs := [4]) (by kernel_rfl) (by simp) ?_
  refine AllReadyH.cons (o := { dst := some 37, op := Go.Op.load 44 (Go.Operand.tmp 36), type := 44, pos := "machine.go:118", after := #[{ on := 3, ground := Go.Ground.data }], guard := none }) rfl (fun K hK => ?_) AllReadyH.nil
  go_simp
  refine hK.out _ _ hHeld (fun hHeld => ?_)
  clear hK K
  try simp only [Act.put, List.setIfInBounds_toArray, List.set_cons_zero, List.set_cons_succ]
  refine wpAnyH_ready (rs := [8]) (by kernel_rfl) (by simp) ?_
  refine AllReadyH.cons (o := { dst := some 41, op := Go.Op.call { callee := Go.Callee.value (Go.Operand.func 183), args := #[Go.Operand.tmp 37, Go.Operand.tmp 39, Go.Operand.tmp 40], argTypes := #[44, 9, 3] }, type := 261, pos := "machine.go:118", after := #[{ on := 4, ground := Go.Ground.data }, { on := 6, ground := Go.Ground.data }, { on := 7, ground := Go.Ground.data }], guard := none }) rfl (fun K hK => ?_) AllReadyH.nil
  go_simp
  refine (CT.out _ HB0.out.drew).mono ?_
  rintro e w2 ⟨v2, rfl, hs2, hb2⟩
  have hbw : Below w.heap.size w w2 := (HB0.out.drew).trans (hb2.mono HB0.out.size)
  have hp2 := behind HPW.out ((Below.refl _ _).drew) hb2
  have hr2 := behind HRW.out ((Below.refl _ _).drew) hb2
  have ho2 := behind HOW.out ((Below.refl _ _).drew) hb2
  obtain ⟨e0, e1, e2, e3, ef, hpl2⟩ := state_cells hp2
  obtain ⟨r0, r1, r2, rf, hrl2⟩ := reply_cells hr2
  obtain ⟨u0, u1, u2, u3, uf, hul2⟩ := state_cells ho2
  obtain ⟨vo, vc, rfl⟩ := (hs2.reads (Nat.le_refl _)).slice
  have HS2 : (fun w' : World => w'.cell? ⟨w.heap.size, 0, none⟩ = some (.int .i64 3) ∧ w'.cell? ⟨w.heap.size, 1, none⟩ = some (.string a)) w2 := ⟨u0, u1⟩
  refine hK.out _ _ HS2 (fun hHeld => ?_)
  clear hK K
  try simp only [Act.put, List.setIfInBounds_toArray, List.set_cons_zero, List.set_cons_succ]
  refine' wpAnyH_take (i := 9) (oi := { dst := some 32, op := Go.Op.move (Go.Operand.tmp 41), type := 261, pos := "machine.go:118", after := #[{ on := 8, ground := Go.Ground.data }], guard := none }) (v := _) rfl (by kernel_rfl) (by kernel_rfl) (by kernel_rfl) (fun _ _ _ h => h) (Or.inl ⟨by rfl, ?hy40⟩) (by assumption) ?rest40
  case hy40 =>
    intro wy hSy
    clear hSy
    go_simp
    try rfl
  simp only [Act.put, List.setIfInBounds_toArray, List.set_cons_zero, List.set_cons_succ]
  refine' wpAnyH_take (i := 10) (oi := { dst := some 42, op := Go.Op.extract (Go.Operand.tmp 32) 0, type := 44, pos := "machine.go:118", after := #[{ on := 9, ground := Go.Ground.data }], guard := none }) (v := _) rfl (by kernel_rfl) (by kernel_rfl) (by kernel_rfl) (fun _ _ _ h => h) (Or.inl ⟨by rfl, ?hy41⟩) (by assumption) ?rest41
  case hy41 =>
    intro wy hSy
    clear hSy
    go_simp
    try rfl
  simp only [Act.put, List.setIfInBounds_toArray, List.set_cons_zero, List.set_cons_succ]
  refine' wpAnyH_take (i := 11) (oi := { dst := some 43, op := Go.Op.extract (Go.Operand.tmp 32) 1, type := 73, pos := "machine.go:118", after := #[{ on := 9, ground := Go.Ground.data }, { on := 15, ground := Go.Ground.gcOnly Go.Departure.lateStores }], guard := none }) (v := _) rfl (by kernel_rfl) (by kernel_rfl) (by kernel_rfl) (fun _ _ _ h => h) (Or.inl ⟨by rfl, ?hy42⟩) (by assumption) ?rest42
  case hy42 =>
    intro wy hSy
    clear hSy
    go_simp
    try rfl
  simp only [Act.put, List.setIfInBounds_toArray, List.set_cons_zero, List.set_cons_succ]
  refine' wpAnyH_take (i := 12) (oi := { dst := some 44, op := Go.Op.extract (Go.Operand.tmp 32) 2, type := 33, pos := "machine.go:118", after := #[{ on := 9, ground := Go.Ground.data }, { on := 16, ground := Go.Ground.gcOnly Go.Departure.lateStores }], guard := none }) (v := _) rfl (by kernel_rfl) (by kernel_rfl) (by kernel_rfl) (fun _ _ _ h => h) (Or.inl ⟨by rfl, ?hy43⟩) (by assumption) ?rest43
  case hy43 =>
    intro wy hSy
    clear hSy
    go_simp
    try rfl
  simp only [Act.put, List.setIfInBounds_toArray, List.set_cons_zero, List.set_cons_succ]
  refine' wpAnyH_take (i := 13) (oi := { dst := some 45, op := Go.Op.nilCheck (Go.Operand.tmp 33), type := 0, pos := "machine.go:118", after := #[{ on := 0, ground := Go.Ground.data }, { on := 0, ground := Go.Ground.phase }, { on := 1, ground := Go.Ground.phase }, { on := 2, ground := Go.Ground.phase }, { on := 3, ground := Go.Ground.phase }, { on := 4, ground := Go.Ground.phase }, { on := 5, ground := Go.Ground.phase }, { on := 6, ground := Go.Ground.phase }, { on := 7, ground := Go.Ground.phase }, { on := 8, ground := Go.Ground.phase }, { on := 9, ground := Go.Ground.phase }, { on := 10, ground := Go.Ground.phase }, { on := 11, ground := Go.Ground.textOnly Go.Departure.lateStores }, { on := 12, ground := Go.Ground.textOnly Go.Departure.lateStores }], guard := none }) (v := _) rfl (by kernel_rfl) (by kernel_rfl) (by kernel_rfl) (fun _ _ _ h => h) (Or.inl ⟨by rfl, ?hy44⟩) (by assumption) ?rest44
  case hy44 =>
    intro wy hSy
    clear hSy
    go_simp
    try rfl
  simp only [Act.put, List.setIfInBounds_toArray, List.set_cons_zero, List.set_cons_succ]
  refine' wpAnyH_take (i := 14) (oi := { dst := some 46, op := Go.Op.fieldAddr 48 (Go.Operand.tmp 45) 1, type := 0, pos := "machine.go:118", after := #[{ on := 13, ground := Go.Ground.data }, { on := 0, ground := Go.Ground.phase }, { on := 1, ground := Go.Ground.phase }, { on := 2, ground := Go.Ground.phase }, { on := 3, ground := Go.Ground.phase }, { on := 4, ground := Go.Ground.phase }, { on := 5, ground := Go.Ground.phase }, { on := 6, ground := Go.Ground.phase }, { on := 7, ground := Go.Ground.phase }, { on := 8, ground := Go.Ground.phase }, { on := 9, ground := Go.Ground.phase }, { on := 10, ground := Go.Ground.phase }, { on := 11, ground := Go.Ground.textOnly Go.Departure.lateStores }, { on := 12, ground := Go.Ground.textOnly Go.Departure.lateStores }], guard := none }) (v := _) rfl (by kernel_rfl) (by kernel_rfl) (by kernel_rfl) (fun _ _ _ h => h) (Or.inl ⟨by rfl, ?hy45⟩) (by assumption) ?rest45
  case hy45 =>
    intro wy hSy
    clear hSy
    go_simp
    try rfl
  simp only [Act.put, List.setIfInBounds_toArray, List.set_cons_zero, List.set_cons_succ]
  refine wpAnyH_ready (rs := [15]) (by kernel_rfl) (by simp) ?_
  refine AllReadyH.cons (o := { dst := none, op := Go.Op.store 44 (Go.Operand.tmp 46) (Go.Operand.tmp 42), type := 0, pos := "machine.go:118", after := #[{ on := 14, ground := Go.Ground.data }, { on := 10, ground := Go.Ground.data }, { on := 8, ground := Go.Ground.chain }, { on := 0, ground := Go.Ground.phase }, { on := 1, ground := Go.Ground.phase }, { on := 2, ground := Go.Ground.phase }, { on := 3, ground := Go.Ground.phase }, { on := 4, ground := Go.Ground.phase }, { on := 5, ground := Go.Ground.phase }, { on := 6, ground := Go.Ground.phase }, { on := 7, ground := Go.Ground.phase }, { on := 8, ground := Go.Ground.phase }, { on := 9, ground := Go.Ground.phase }, { on := 10, ground := Go.Ground.phase }, { on := 11, ground := Go.Ground.textOnly Go.Departure.lateStores }, { on := 12, ground := Go.Ground.textOnly Go.Departure.lateStores }], guard := none }) rfl (fun K hK => ?_) AllReadyH.nil
  go_simp
  have HS3 : (fun w' : World => w'.cell? ⟨w.heap.size, 0, none⟩ = some (.int .i64 3) ∧ w'.cell? ⟨w.heap.size, 1, none⟩ = some (.string a)) (w2.setCell ⟨p, 1, none⟩ (.slice vo j.length vc)) := ⟨(World.cell?_setCell_far _ _ _ _ (by simpa using hne)).trans u0, (World.cell?_setCell_far _ _ _ _ (by simpa using hne)).trans u1⟩
  refine hK.out _ _ HS3 (fun hHeld => ?_)
  clear hK K
  try simp only [Act.put, List.setIfInBounds_toArray, List.set_cons_zero, List.set_cons_succ]
  refine wpAnyH_ready (rs := [16]) (by kernel_rfl) (by simp) ?_
  refine AllReadyH.cons (o := { dst := none, op := Go.Op.store 73 (Go.Operand.tmp 6) (Go.Operand.tmp 43), type := 0, pos := "machine.go:118", after := #[{ on := 11, ground := Go.Ground.data }, { on := 15, ground := Go.Ground.chain }, { on := 0, ground := Go.Ground.phase }, { on := 1, ground := Go.Ground.phase }, { on := 2, ground := Go.Ground.phase }, { on := 3, ground := Go.Ground.phase }, { on := 4, ground := Go.Ground.phase }, { on := 5, ground := Go.Ground.phase }, { on := 6, ground := Go.Ground.phase }, { on := 7, ground := Go.Ground.phase }, { on := 8, ground := Go.Ground.phase }, { on := 9, ground := Go.Ground.phase }, { on := 10, ground := Go.Ground.phase }, { on := 11, ground := Go.Ground.phase }, { on := 12, ground := Go.Ground.textOnly Go.Departure.lateStores }, { on := 13, ground := Go.Ground.phase }, { on := 14, ground := Go.Ground.phase }, { on := 15, ground := Go.Ground.phase }], guard := none }) rfl (fun K hK => ?_) AllReadyH.nil
  go_simp
  have HS4 : (fun w' : World => w'.cell? ⟨w.heap.size, 0, none⟩ = some (.int .i64 3) ∧ w'.cell? ⟨w.heap.size, 1, none⟩ = some (.string a)) ((((w2.setCell ⟨p, 1, none⟩ (.slice vo j.length vc)).setCell ⟨w.heap.size + 1, 0, none⟩ (.int .i64 jc)).setCell ⟨w.heap.size + 1, 1, none⟩ (.int .i64 jn)).setCell ⟨w.heap.size + 1, 2, none⟩ (.string ⟨#[]⟩)) := ⟨(World.cell?_setCell_far _ _ _ _ (by simp)).trans ((World.cell?_setCell_far _ _ _ _ (by simp)).trans ((World.cell?_setCell_far _ _ _ _ (by simp)).trans HS3.1)), (World.cell?_setCell_far _ _ _ _ (by simp)).trans ((World.cell?_setCell_far _ _ _ _ (by simp)).trans ((World.cell?_setCell_far _ _ _ _ (by simp)).trans HS3.2))⟩
  refine hK.out _ _ HS4 (fun hHeld => ?_)
  clear hK K
  try simp only [Act.put, List.setIfInBounds_toArray, List.set_cons_zero, List.set_cons_succ]
  refine wpAnyH_done (by kernel_rfl) ?_ _
  have K1 := (HS.out.below hbw).setLocks (hs2.mono (Nat.zero_le _))
  have hr3 : (w2.setCell ⟨p, 1, none⟩ (.slice vo j.length vc)).heap[w.heap.size + 1]? = some (.cells #[.int .i64 0, .int .i64 0, .string ⟨#[]⟩] 73 (0, 0)) := (Below.heap_setCell _ _ _ _ (by simpa using hne2')).trans hr2
  obtain ⟨K2, hr4⟩ := K1.reply hr3 hne2' jc jn ⟨#[]⟩
  have KT := (touch_reply (r := w.heap.size + 1) ((TouchG.of_below hbw (Nat.le_refl _) (fun b => b = p)).setCell (a := ⟨p, 1, none⟩) (Or.inl rfl) (.slice vo j.length vc)) (Or.inr (by omega)) (.int .i64 jc) (.int .i64 jn) (.string ⟨#[]⟩))
  obtain ⟨W4, hW4⟩ : ∃ W4, W4 = (((w2.setCell ⟨p, 1, none⟩ (.slice vo j.length vc)).setCell ⟨w.heap.size + 1, 0, none⟩ (.int .i64 jc)).setCell ⟨w.heap.size + 1, 1, none⟩ (.int .i64 jn)).setCell ⟨w.heap.size + 1, 2, none⟩ (.string ⟨#[]⟩) := ⟨_, rfl⟩
  rw [← hW4] at K2 hr4 KT ⊢
  obtain ⟨q0, q1, q2, qf, hql⟩ := reply_cells hr4
  have KF := ghid (K2.reply hr4 hne2' jc jn ⟨#[]⟩).1
  have HT := ghid (touch_reply (r := w.heap.size + 1) KT (Or.inr (by omega)) (.int .i64 jc) (.int .i64 jn) (.string ⟨#[]⟩))
  clear hb2 hs2 hp2 hr2 ho2 hr3 hr4 K1 K2 KT hbw hW4 e0 e1 e2 e3 ef r0 r1 r2 rf u0 u1 u2 u3 uf HS2 HS3 HS4 hHeld a0 a1 a2 a3 af o0 o1 o2 o3 of
  go_wp2
  refine bodyPost_ret (v := .agg #[.int .i64 jc, .int .i64 jn, .string ⟨#[]⟩]) (by simp [results, Tryz.results141, go_sem, q0, q1, q2]) rfl ⟨rfl, ?_, ?_⟩
  · exact KF.out
  · exact HT.out

set_option maxRecDepth 100000 in
set_option maxHeartbeats 3200000 in
theorem moper_who (p : Nat) (s : StateD) (c : Int) (a b : ByteArray) (n : Int) (w : World) (h : StB w p s) (hr : checkL s.locks = 0) :
    Calls Tryz.prog 141 #[.pointer (some ⟨p, 0, none⟩), .int .i64 c, .agg #[.int .i64 4, .string a, .string b, .int .i64 n]] w fun e w' => e = .returned (.agg #[.int .i64 0, .int .i64 (whoL s.locks a).1, .string ⟨#[]⟩]) ∧ StB w' p s ∧ TouchG w w' (fun b => b = p) := by
  have HS := ghid h
  obtain ⟨lo, po, so, ln, lc, pn, pc, sn, sc, h0, h1, h2, h3⟩ := h
  have CT := ghid (fun (w' : World) (hb : Below w.heap.size w w') => Who_ok (.slice lo ln lc) s.locks a w' w.heap.size ((h1.reads (Nat.le_refl _)).below hb (Nat.le_refl _)) hb.size hr)
  obtain ⟨⟨jn, jf⟩, hj⟩ : ∃ q, q = whoL s.locks a := ⟨_, rfl⟩
  rw [← hj] at CT ⊢
  simp only at CT ⊢
  have HP := ghid h0
  obtain ⟨d0, d1, d2, d3, df, hpl⟩ := state_cells h0
  have hne : p ≠ w.heap.size := by omega
  have hne' : w.heap.size ≠ p := by omega
  have hne2 : p ≠ w.heap.size + 1 := by omega
  have hne2' : w.heap.size + 1 ≠ p := by omega
  have HB0 : Hid (Below w.heap.size w ((w.alloc (.cells #[.int .i64 4, .string a, .string b, .int .i64 n] 38)).alloc (.cells #[.int .i64 0, .int .i64 0, .string ⟨#[]⟩] 73))) := ((Below.refl w.heap.size w).alloc (Nat.le_refl _) _).alloc (by simp) _
  have hpW := behind HP.out (Below.refl _ _) HB0.out
  obtain ⟨hrW, hoW⟩ := two_newB (Below.refl (w.heap.size + 2) ((w.alloc (.cells #[.int .i64 4, .string a, .string b, .int .i64 n] 38)).alloc (.cells #[.int .i64 0, .int .i64 0, .string ⟨#[]⟩] 73)))
  obtain ⟨a0, a1, a2, a3, af, hplW⟩ := state_cells hpW
  obtain ⟨o0, o1, o2, o3, of, holW⟩ := state_cells hoW
  obtain ⟨W0, hW0⟩ : ∃ W0, W0 = (w.alloc (.cells #[.int .i64 4, .string a, .string b, .int .i64 n] 38)).alloc (.cells #[.int .i64 0, .int .i64 0, .string ⟨#[]⟩] 73) := ⟨_, rfl⟩
  rw [← hW0] at HB0 hpW hrW hoW a0 a1 a2 a3 af hplW o0 o1 o2 o3 of holW
  have HW0 := ghid hW0
  have HPW := ghid hpW
  have HRW := ghid hrW
  have HOW := ghid hoW
  clear h0 h1 h2 h3 hj hr hpW hrW hoW hW0 d0 d1 d2 d3 df
  go_enter Tryz.func141, Tryz.ntmps141
  go_upto_region 8 with fail
  rw [← HW0.out]
  clear HW0
  go_region_held3 (fun w' => w'.cell? ⟨p, 1, none⟩ = some (.slice lo ln lc) ∧ w'.cell? ⟨w.heap.size, 1, none⟩ = some (.string a)) (go_keep)
    (first
      | (go_at_call 29; refine (CT.out _ HB0.out.drew).mono ?_; rintro e w2 ⟨rfl, hb2⟩; have hbw : Below w.heap.size w w2 := (HB0.out.drew).trans (hb2.mono HB0.out.size); have hp2 := behind HPW.out ((Below.refl _ _).drew) hb2; have hr2 := behind HRW.out ((Below.refl _ _).drew) hb2; have ho2 := behind HOW.out ((Below.refl _ _).drew) hb2; obtain ⟨e0, e1, e2, e3, ef, hpl2⟩ := state_cells hp2; obtain ⟨r0, r1, r2, rf, hrl2⟩ := reply_cells hr2; obtain ⟨u0, u1, u2, u3, uf, hul2⟩ := state_cells ho2))
  have hr3 : (w2.setCell ⟨w.heap.size + 1, 1, none⟩ (.int .i64 jn)).heap[w.heap.size + 1]? = some (.cells #[.int .i64 0, .int .i64 jn, .string ⟨#[]⟩] 73 (0, 0)) := by rw [heap_set hr2]; rfl
  have KT := (TouchG.of_below hbw (Nat.le_refl _) (fun b => b = p)).setCell (a := ⟨w.heap.size + 1, 1, none⟩) (Or.inr (by show w.heap.size ≤ w.heap.size + 1; omega)) (.int .i64 jn)
  have K2 := (HS.out.below hbw).touch (S := fun b => b = w.heap.size + 1) ((TouchG.refl w2 (fun b => b = w.heap.size + 1)).setCell (a := ⟨w.heap.size + 1, 1, none⟩) (Or.inl rfl) (.int .i64 jn)) hne2 (fun g _ e => e ▸ foreign_reply hr2)
  obtain ⟨W4, hW4⟩ : ∃ W4, W4 = w2.setCell ⟨w.heap.size + 1, 1, none⟩ (.int .i64 jn) := ⟨_, rfl⟩
  rw [← hW4] at K2 hr3 KT ⊢
  obtain ⟨q0, q1, q2, qf, hql⟩ := reply_cells hr3
  have KF := ghid (K2.reply hr3 hne2' 0 jn ⟨#[]⟩).1
  have HT := ghid (touch_reply (r := w.heap.size + 1) KT (Or.inr (by omega)) (.int .i64 0) (.int .i64 jn) (.string ⟨#[]⟩))
  clear hb2 hp2 hr2 ho2 hr3 K2 KT hbw hW4 e0 e1 e2 e3 ef r0 r1 r2 rf a0 a1 a2 a3 af o0 o1 o2 o3 of u0 u1 u2 u3 uf
  go_wp2
  refine bodyPost_ret (v := .agg #[.int .i64 0, .int .i64 jn, .string ⟨#[]⟩]) (by simp [results, Tryz.results141, go_sem, q0, q1, q2]) rfl ⟨rfl, ?_, ?_⟩
  · exact KF.out
  · exact HT.out

set_option maxRecDepth 100000 in
set_option maxHeartbeats 3200000 in
theorem moper_get (p : Nat) (s : StateD) (c : Int) (a b : ByteArray) (n : Int) (w : World) (h : StB w p s) (hr : checkP s.pairs = 0) :
    Calls Tryz.prog 141 #[.pointer (some ⟨p, 0, none⟩), .int .i64 c, .agg #[.int .i64 6, .string a, .string b, .int .i64 n]] w fun e w' => e = .returned (.agg #[.int .i64 (getP s.pairs a).1, .int .i64 (getP s.pairs a).2.1, .string (getP s.pairs a).2.2]) ∧ StB w' p s ∧ TouchG w w' (fun b => b = p) := by
  have HS := ghid h
  obtain ⟨lo, po, so, ln, lc, pn, pc, sn, sc, h0, h1, h2, h3⟩ := h
  have CT := ghid (fun (w' : World) (hb : Below w.heap.size w w') => Get_ok (.slice po pn pc) s.pairs a w' w.heap.size (h2.below hb (Nat.le_refl _)) hb.size hr)
  obtain ⟨⟨jc, jn, jt⟩, hj⟩ : ∃ q, q = getP s.pairs a := ⟨_, rfl⟩
  rw [← hj] at CT ⊢
  simp only [replyP] at CT ⊢
  have HP := ghid h0
  obtain ⟨d0, d1, d2, d3, df, hpl⟩ := state_cells h0
  have hne : p ≠ w.heap.size := by omega
  have hne' : w.heap.size ≠ p := by omega
  have hne2 : p ≠ w.heap.size + 1 := by omega
  have hne2' : w.heap.size + 1 ≠ p := by omega
  have HB0 : Hid (Below w.heap.size w ((w.alloc (.cells #[.int .i64 6, .string a, .string b, .int .i64 n] 38)).alloc (.cells #[.int .i64 0, .int .i64 0, .string ⟨#[]⟩] 73))) := ((Below.refl w.heap.size w).alloc (Nat.le_refl _) _).alloc (by simp) _
  have hpW := behind HP.out (Below.refl _ _) HB0.out
  obtain ⟨hrW, hoW⟩ := two_newB (Below.refl (w.heap.size + 2) ((w.alloc (.cells #[.int .i64 6, .string a, .string b, .int .i64 n] 38)).alloc (.cells #[.int .i64 0, .int .i64 0, .string ⟨#[]⟩] 73)))
  obtain ⟨a0, a1, a2, a3, af, hplW⟩ := state_cells hpW
  obtain ⟨o0, o1, o2, o3, of, holW⟩ := state_cells hoW
  obtain ⟨W0, hW0⟩ : ∃ W0, W0 = (w.alloc (.cells #[.int .i64 6, .string a, .string b, .int .i64 n] 38)).alloc (.cells #[.int .i64 0, .int .i64 0, .string ⟨#[]⟩] 73) := ⟨_, rfl⟩
  rw [← hW0] at HB0 hpW hrW hoW a0 a1 a2 a3 af hplW o0 o1 o2 o3 of holW
  have HW0 := ghid hW0
  have HPW := ghid hpW
  have HRW := ghid hrW
  have HOW := ghid hoW
  clear h0 h1 h2 h3 hj hr hpW hrW hoW hW0 d0 d1 d2 d3 df
  go_enter Tryz.func141, Tryz.ntmps141
  go_upto_region 12 with fail
  rw [← HW0.out]
  clear HW0
  go_region_held3 (fun w' => w'.cell? ⟨p, 2, none⟩ = some (.slice po pn pc) ∧ w'.cell? ⟨w.heap.size, 1, none⟩ = some (.string a)) (go_keep)
    (first
      | (go_at_call 185; refine (CT.out _ HB0.out.drew).mono ?_; rintro e w2 ⟨rfl, hb2⟩; have hbw : Below w.heap.size w w2 := (HB0.out.drew).trans (hb2.mono HB0.out.size); have hp2 := behind HPW.out ((Below.refl _ _).drew) hb2; have hr2 := behind HRW.out ((Below.refl _ _).drew) hb2; have ho2 := behind HOW.out ((Below.refl _ _).drew) hb2; obtain ⟨e0, e1, e2, e3, ef, hpl2⟩ := state_cells hp2; obtain ⟨r0, r1, r2, rf, hrl2⟩ := reply_cells hr2; obtain ⟨u0, u1, u2, u3, uf, hul2⟩ := state_cells ho2))
  obtain ⟨K2, hr4⟩ := (HS.out.below hbw).reply hr2 hne2' jc jn jt
  have KT := (touch_reply (r := w.heap.size + 1) (TouchG.of_below hbw (Nat.le_refl _) (fun b => b = p)) (Or.inr (by omega)) (.int .i64 jc) (.int .i64 jn) (.string jt))
  obtain ⟨W4, hW4⟩ : ∃ W4, W4 = ((w2.setCell ⟨w.heap.size + 1, 0, none⟩ (.int .i64 jc)).setCell ⟨w.heap.size + 1, 1, none⟩ (.int .i64 jn)).setCell ⟨w.heap.size + 1, 2, none⟩ (.string jt) := ⟨_, rfl⟩
  rw [← hW4] at K2 hr4 KT ⊢
  obtain ⟨q0, q1, q2, qf, hql⟩ := reply_cells hr4
  have KF := ghid (K2.reply hr4 hne2' jc jn jt).1
  have HT := ghid (touch_reply (r := w.heap.size + 1) KT (Or.inr (by omega)) (.int .i64 jc) (.int .i64 jn) (.string jt))
  clear hb2 hp2 hr2 ho2 hr4 K2 KT hbw hW4 e0 e1 e2 e3 ef r0 r1 r2 rf a0 a1 a2 a3 af o0 o1 o2 o3 of u0 u1 u2 u3 uf
  go_wp2
  refine bodyPost_ret (v := .agg #[.int .i64 jc, .int .i64 jn, .string jt]) (by simp [results, Tryz.results141, go_sem, q0, q1, q2]) rfl ⟨rfl, ?_, ?_⟩
  · exact KF.out
  · exact HT.out

set_option maxRecDepth 100000 in
set_option maxHeartbeats 3200000 in
theorem moper_set (p : Nat) (s s' : StateD) (c : Int) (a b : ByteArray) (n jc jn : Int) (w : World) (h : StB w p s) (C : ∀ w' : World, StB w' p s → Calls Tryz.prog 184 #[.pointer (some ⟨p, 0, none⟩), .int .i64 c, .agg #[.int .i64 5, .string a, .string b, .int .i64 n]] w' fun e w'' => e = .returned (.agg #[.int .i64 jc, .int .i64 jn, .string ⟨#[]⟩]) ∧ StB w'' p s' ∧ TouchG w' w'' (fun b => b = p)) :
    Calls Tryz.prog 141 #[.pointer (some ⟨p, 0, none⟩), .int .i64 c, .agg #[.int .i64 5, .string a, .string b, .int .i64 n]] w fun e w' => e = .returned (.agg #[.int .i64 jc, .int .i64 jn, .string ⟨#[]⟩]) ∧ StB w' p s' ∧ TouchG w w' (fun b => b = p) := by
  have hb0 : Below w.heap.size w ((w.alloc (.cells #[.int .i64 5, .string a, .string b, .int .i64 n] 38)).alloc (.cells #[.int .i64 0, .int .i64 0, .string ⟨#[]⟩] 73)) := ((Below.refl w.heap.size w).alloc (Nat.le_refl _) _).alloc (by simp) _
  have C' := ghid (C _ (h.below hb0))
  have HB0 := ghid hb0
  have hpl := h.lt
  have hne2' : w.heap.size + 1 ≠ p := by omega
  have hne2 : p ≠ w.heap.size + 1 := by omega
  clear h hb0 C
  go_enter Tryz.func141, Tryz.ntmps141
  go_wp2_with fail
  refine C'.out.mono ?_
  rintro e w2 ⟨rfl, hs2, ht2⟩
  have hr2 : w2.heap[w.heap.size + 1]? = some (.cells #[.int .i64 0, .int .i64 0, .string ⟨#[]⟩] 73 (0, 0)) := by
    rw [ht2.block _ (by simp) hne2']
    have := heap_alloc_new (w.alloc (.cells #[.int .i64 5, .string a, .string b, .int .i64 n] 38)) (.cells #[.int .i64 0, .int .i64 0, .string ⟨#[]⟩] 73)
    rwa [World.size_alloc] at this
  have HT := ghid (touch_reply (r := w.heap.size + 1) ((TouchG.of_below HB0.out (Nat.le_refl _) (fun b => b = p)).trans ht2 (fun _ _ h => h)) (Or.inr (by omega)) (.int .i64 jc) (.int .i64 jn) (.string ⟨#[]⟩))
  have KF := ghid (hs2.reply hr2 hne2' jc jn ⟨#[]⟩).1
  obtain ⟨q0, q1, q2, qf, hql⟩ := reply_cells hr2
  clear hs2 ht2 hr2
  go_wp2
  refine bodyPost_ret (v := .agg #[.int .i64 jc, .int .i64 jn, .string ⟨#[]⟩]) (by simp [results, Tryz.results141, go_sem, q0, q1, q2]) rfl ⟨rfl, ?_, ?_⟩
  · exact KF.out
  · exact HT.out

end Go.Proofs.YtijilhbdbeajjaaGreatDoor
