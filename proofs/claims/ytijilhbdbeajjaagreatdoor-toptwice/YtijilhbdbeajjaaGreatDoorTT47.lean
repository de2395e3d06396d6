/- cluster.enter, cluster.send. (Written by gen_clusenter.py.); customer.refuseStart: what is wrong with starting a call; customer.Copy: the same client, in memory of its own; Three blocks made ahead of a callee. It names no program; customer.Start; cluster.start. (Written by gen_clusstart.py.); replica.Install, at a replica that may be; cluster.catchUp. (Written by gen_cluscatch.py.); cluster.ship. (Written by gen_clusship.py.); What is replied is short. Plain mathematics; cluster.apply. (Written by gen_clusapply.py.); slices.Delete of one mail out of a row of the call's own (joined by program) -/
import Derived.Deep.RegionHeld3
import Derived.Deep.DeepCutAuto
import Derived.Deep.RegionWith
import Derived.Deep.AppendLies
import Derived.Deep.RegionLaw
import Derived.Test.YtijilhbdbeajjaaGreatDoorTT46
import Derived.Test.YtijilhbdbeajjaaGreatDoorTT42
import Derived.Test.YtijilhbdbeajjaaGreatDoorTT02
import Derived.Test.YtijilhbdbeajjaaGreatDoorTT00
import Derived.Test.YtijilhbdbeajjaaGreatDoorTT45
import Derived.Test.YtijilhbdbeajjaaGreatDoorTT44
import Derived.Test.YtijilhbdbeajjaaGreatDoorTT18
namespace Go.Proofs.YtijilhbdbeajjaaGreatDoor

open Go.RowKit

/-- customer.Hello, whatever it answers. -/
theorem Hello_any (v : Value) (c : CustD) (w : World) (B : Nat) (hv : CustR w B v c) (hB : B ≤ w.heap.size) :
    Calls Tryz.prog 145 #[v] w fun e w' => e = .returned (.tuple #[.string (if checkC c = 0 then helloT c else ⟨#[]⟩), .int .i64 (checkC c)]) ∧ Below w.heap.size w w' := by
  by_cases hc : checkC c = 0
  · rw [if_pos hc, hc]
    exact Hello_ok v c w B hv hB hc
  · rw [if_neg hc]
    exact Hello_bad v c w B hv hB hc

/-- customer.Request, whatever it answers. -/
theorem Request_any (v : Value) (c : CustD) (k : Int) (w : World) (B : Nat) (hv : CustR w B v c) (hB : B ≤ w.heap.size) :
    Calls Tryz.prog 147 #[v, .int .i64 k] w fun e w' => e = .returned (.tuple #[.string (if requestE c k = 0 then askT c k.toNat else ⟨#[]⟩), .int .i64 (requestE c k)]) ∧ Below w.heap.size w w' := by
  by_cases hr : requestE c k = 0
  · rw [if_pos hr, hr]
    have hc : checkC c = 0 := Classical.byContradiction fun e => by unfold requestE at hr; rw [if_pos e] at hr; exact e hr
    have hk : 0 ≤ k ∧ k ≤ (c.waits.length : Int) - 1 := Classical.byContradiction fun e => by unfold requestE at hr; rw [if_neg (by simpa using hc), if_pos e] at hr; cases hr
    obtain ⟨x, hx⟩ : ∃ x, c.waits[k.toNat]? = some x := ⟨_, List.getElem?_eq_getElem (by omega)⟩
    have h := Request_ok v c k.toNat x w B hv hB hc hx
    rw [show ((k.toNat : Nat) : Int) = k by omega] at h
    unfold askT
    rw [hx]
    have ht := tailOut_eq ⟨2, c.id, c.session, x.seq, knownC c, x.kind, x.a, x.b, x.n⟩
    simp only at ht ⊢
    unfold cmdOut
    rw [if_pos rfl, ← ht]
    exact h
  · rw [if_neg hr]
    exact Request_bad v c k w B hv hB hr

theorem hello_size {c : CustD} (h : checkC c = 0) : (helloT c).size ≤ 140737488351232 := by
  have hx2 : (⟨1, c.id, 0, 0, 0, 0, ⟨#[]⟩, ⟨#[]⟩, 0⟩ : CmdD).err = 0 := by
    have hi := (GoodC.of h).id
    show cmdE 1 c.id 0 0 0 0 ⟨#[]⟩ ⟨#[]⟩ 0 = 0
    unfold cmdE
    rw [if_neg (by omega), if_neg (by omega), if_neg (by omega), if_pos ⟨rfl, rfl, rfl, rfl, rfl, rfl, rfl⟩]
  have := (cmdOut_size _ hx2).2
  exact Nat.le_trans this (by omega)

theorem ask_size {c : CustD} {k : Int} (hr : requestE c k = 0) : (askT c k.toNat).size ≤ 140737488351232 := by
  have hc : checkC c = 0 := Classical.byContradiction fun e => by unfold requestE at hr; rw [if_pos e] at hr; exact e hr
  have hk : 0 ≤ k ∧ k ≤ (c.waits.length : Int) - 1 := Classical.byContradiction fun e => by unfold requestE at hr; rw [if_neg (by simpa using hc), if_pos e] at hr; cases hr
  obtain ⟨x, hx⟩ : ∃ x, c.waits[k.toNat]? = some x := ⟨_, List.getElem?_eq_getElem (by omega)⟩
  unfold askT
  rw [hx]
  have := (cmdOut_size _ (ask_err (GoodC.of hc) hx)).2
  exact Nat.le_trans this (by omega)

theorem added_bad (t : TownD) {e : Int} (h : e ≠ 0) (s : ByteArray) : t.added e s = (t, e) := if_pos h

section

variable {gh g2 ev : Value} {p : Nat} {K : Nat → Prop} {rv cv mv tv : Value} {xs : List RepV} {cs : List CustV} {t : TownD} {n : Nat} {w : World}

set_option maxRecDepth 100000 in
set_option maxHeartbeats 3200000 in
theorem enter_town (h : TownM 32 [gh, g2, ev] w p K rv cv mv tv xs cs t) (hG : TownR t n) (hn : n ≤ 400) {i : Nat} {c : CustD} (hi : t.custs[i]? = some c) (R : TownD × Int) (hR : R = t.added (checkC c) (helloT c)) :
    Calls Tryz.prog 103 #[.pointer (some ⟨p, 0, none⟩), .int .i64 (i : Int)] w fun e w' => e = .returned (.int .i64 R.2) ∧ MovedE 32 [gh, g2, ev] w w' p K R.1 := by
  obtain ⟨g, cap, rfl, hil⟩ := h.crow hi
  obtain ⟨x, hx, hxd, hxr⟩ := h.cust hi
  obtain ⟨r0, r1, r2, r3, rf, hgl, -⟩ := h.ccells rfl hx
  obtain ⟨c0, c1, c2, c3, c4, c5, cf, hpl⟩ := six_cells h.cells
  have HH := ghid h
  have CC := ghid (Hello_any x.val c w w.heap.size hxr (Nat.le_refl _))
  have HS := ghid (fun (hz : checkC c = 0) => hello_size hz)
  have HR := ghid hR
  have CT := ghid (fun (u : World) (hu : Below w.heap.size w u) (hz : checkC c = 0) => tell_town (h.below hu) hG hn (helloT c) (HS.out hz) R (by rw [HR.out, hz]))
  obtain ⟨ce, hce⟩ : ∃ z, z = checkC c := ⟨_, rfl⟩
  obtain ⟨ht, hht⟩ : ∃ z, z = helloT c := ⟨_, rfl⟩
  rw [← hce, ← hht] at CC CT HR
  obtain ⟨xd, xo, xc⟩ := x
  simp only [CustV.val] at r0 r1 r2 r3 CC
  have hi3 : (i : Int) < cs.length := by omega
  clear h hi hx hxd hxr hR hce hht HS
  by_cases h0 : ce = 0
  · have CT0 := ghid (fun u hu => CT.out u hu h0)
    rw [if_pos h0] at CC
    subst h0
    clear CT HR
    go_enter Tryz.func103, Tryz.ntmps103
    go_wp2_with fail
    refine CC.out.mono ?_
    rintro e w1 ⟨rfl, hb1⟩
    have HB1 := ghid hb1
    clear hb1 r0 r1 r2 r3 rf hgl c0 c1 c2 c3 c4 c5 cf hpl
    go_wp2_with fail
    refine (CT0.out _ HB1.out).mono ?_
    rintro e w2 ⟨rfl, hm2⟩
    have HM2 := ghid hm2
    clear hm2
    go_wp2
    go_ret
    exact ⟨rfl, HM2.out.behind HB1.out⟩
  · have HRR : Hid (R = (t, ce)) := HR.out.trans (added_bad t h0 _)
    have hcb : (ce != 0) = true := by simpa using h0
    rw [if_neg h0] at CC
    clear CT HR
    go_enter Tryz.func103, Tryz.ntmps103
    go_wp2_with fail
    refine CC.out.mono ?_
    rintro e w1 ⟨rfl, hb1⟩
    have HB1 := ghid hb1
    clear hb1 r0 r1 r2 r3 rf hgl c0 c1 c2 c3 c4 c5 cf hpl
    go_wp2
    go_ret
    exact ⟨sret_int (by rw [HRR.out]), by rw [HRR.out]; exact MovedE.same ⟨_, _, _, _, _, _, HH.out⟩ HB1.out⟩

set_option maxRecDepth 100000 in
set_option maxHeartbeats 3200000 in
theorem send_town (h : TownM 32 [gh, g2, ev] w p K rv cv mv tv xs cs t) (hG : TownR t n) (hn : n ≤ 400) {i : Nat} {c : CustD} (hi : t.custs[i]? = some c) (k : Int) (R : TownD × Int) (hR : R = t.added (requestE c k) (askT c k.toNat)) :
    Calls Tryz.prog 104 #[.pointer (some ⟨p, 0, none⟩), .int .i64 (i : Int), .int .i64 k] w fun e w' => e = .returned (.int .i64 R.2) ∧ MovedE 32 [gh, g2, ev] w w' p K R.1 := by
  obtain ⟨g, cap, rfl, hil⟩ := h.crow hi
  obtain ⟨x, hx, hxd, hxr⟩ := h.cust hi
  obtain ⟨r0, r1, r2, r3, rf, hgl, -⟩ := h.ccells rfl hx
  obtain ⟨c0, c1, c2, c3, c4, c5, cf, hpl⟩ := six_cells h.cells
  have HH := ghid h
  have CC := ghid (Request_any x.val c k w w.heap.size hxr (Nat.le_refl _))
  have HS := ghid (fun (hz : requestE c k = 0) => ask_size hz)
  have HR := ghid hR
  have CT := ghid (fun (u : World) (hu : Below w.heap.size w u) (hz : requestE c k = 0) => tell_town (h.below hu) hG hn (askT c k.toNat) (HS.out hz) R (by rw [HR.out, hz]))
  obtain ⟨ce, hce⟩ : ∃ z, z = requestE c k := ⟨_, rfl⟩
  obtain ⟨ht, hht⟩ : ∃ z, z = askT c k.toNat := ⟨_, rfl⟩
  rw [← hce, ← hht] at CC CT HR
  obtain ⟨xd, xo, xc⟩ := x
  simp only [CustV.val] at r0 r1 r2 r3 CC
  have hi3 : (i : Int) < cs.length := by omega
  clear h hi hx hxd hxr hR hce hht HS
  by_cases h0 : ce = 0
  · have CT0 := ghid (fun u hu => CT.out u hu h0)
    rw [if_pos h0] at CC
    subst h0
    clear CT HR
    go_enter Tryz.func104, Tryz.ntmps104
    go_wp2_with fail
    refine CC.out.mono ?_
    rintro e w1 ⟨rfl, hb1⟩
    have HB1 := ghid hb1
    clear hb1 r0 r1 r2 r3 rf hgl c0 c1 c2 c3 c4 c5 cf hpl
    go_wp2_with fail
    refine (CT0.out _ HB1.out).mono ?_
    rintro e w2 ⟨rfl, hm2⟩
    have HM2 := ghid hm2
    clear hm2
    go_wp2
    go_ret
    exact ⟨rfl, HM2.out.behind HB1.out⟩
  · have HRR : Hid (R = (t, ce)) := HR.out.trans (added_bad t h0 _)
    have hcb : (ce != 0) = true := by simpa using h0
    rw [if_neg h0] at CC
    clear CT HR
    go_enter Tryz.func104, Tryz.ntmps104
    go_wp2_with fail
    refine CC.out.mono ?_
    rintro e w1 ⟨rfl, hb1⟩
    have HB1 := ghid hb1
    clear hb1 r0 r1 r2 r3 rf hgl c0 c1 c2 c3 c4 c5 cf hpl
    go_wp2
    go_ret
    exact ⟨sret_int (by rw [HRR.out]), by rw [HRR.out]; exact MovedE.same ⟨_, _, _, _, _, _, HH.out⟩ HB1.out⟩

end

end Go.Proofs.YtijilhbdbeajjaaGreatDoor

namespace Go.Proofs.YtijilhbdbeajjaaGreatDoor

open Go.RowKit

set_option maxRecDepth 100000 in
set_option maxHeartbeats 3200000 in
theorem refuseStart_any (v : Value) (c : CustD) (k n : Int) (a b : ByteArray) (w : World) (B : Nat) (hv : CustR w B v c) (hB : B ≤ w.heap.size) (ha : a.size ≤ 140737488351232) (hb : b.size ≤ 140737488351232) :
    Calls Tryz.prog 195 #[v, .agg #[.int .i64 k, .string a, .string b, .int .i64 n]] w fun e w' => e = .returned (.int .i64 (startE c k a b n)) ∧ Below w.heap.size w w' := by
  have C1 := ghid (fun u (hu : Below w.heap.size w u) => custCheck_any v c u B (hv.below hu hB) (by have := hu.size; omega))
  have C2 := ghid (fun u => checkOp_any k a b n u ha hb)
  have CK : Hid (checkC c = 0 → ∀ u, Below w.heap.size w u → Calls Tryz.prog 194 #[v] u fun e w' => e = .returned (.int .i64 (knownC c)) ∧ Below u.heap.size u w') := fun hc u hu => known_any v c u B (hv.below hu hB) (by have := hu.size; omega) (GoodC.of hc).next (GoodC.of hc).seqs
  have HKN : Hid (checkC c = 0 → (0 ≤ knownC c ∧ knownC c ≤ c.next - 1) ∧ 1 ≤ c.next ∧ c.next ≤ 1048577) := fun hc => ⟨(GoodC.of hc).known, (GoodC.of hc).next⟩
  have HST : Hid (startE c k a b n = if checkC c ≠ 0 then checkC c else if c.session = 0 then 11 else if opE k a b n ≠ 0 then opE k a b n else if 1048576 < c.next ∨ 4 < c.next - knownC c then 8 else 0) := rfl
  obtain ⟨ao, cap, rfl, -⟩ := hv.shape
  obtain ⟨cc, hcc⟩ : ∃ z, z = checkC c := ⟨_, rfl⟩
  obtain ⟨oe, hoe⟩ : ∃ z, z = opE k a b n := ⟨_, rfl⟩
  obtain ⟨kn, hkn⟩ : ∃ z, z = knownC c := ⟨_, rfl⟩
  obtain ⟨st, hst⟩ : ∃ z, z = startE c k a b n := ⟨_, rfl⟩
  obtain ⟨id, hid⟩ : ∃ z, z = c.id := ⟨_, rfl⟩
  obtain ⟨se, hse⟩ : ∃ z, z = c.session := ⟨_, rfl⟩
  obtain ⟨nx, hnx⟩ : ∃ z, z = c.next := ⟨_, rfl⟩
  obtain ⟨m, hm⟩ : ∃ z, z = c.waits.length := ⟨_, rfl⟩
  rw [← hid, ← hse, ← hnx, ← hm] at C1 CK
  rw [← hcc] at C1
  rw [← hoe] at C2
  rw [← hcc, ← hkn] at CK
  rw [← hcc, ← hkn, ← hnx] at HKN
  rw [← hst, ← hcc, ← hoe, ← hkn, ← hse, ← hnx] at HST
  rw [← hst, ← hid, ← hse, ← hnx, ← hm]
  have HZ : Hid (Below w.heap.size w ((w.alloc (.cells #[.int .i64 id, .int .i64 se, .int .i64 nx, .slice ao m cap] 55)).alloc (.cells #[.int .i64 k, .string a, .string b, .int .i64 n] 38))) := ((Below.refl _ _).alloc (Nat.le_refl _) _).alloc (by simp) _
  have HX0 : Hid (((w.alloc (.cells #[.int .i64 id, .int .i64 se, .int .i64 nx, .slice ao m cap] 55)).alloc (.cells #[.int .i64 k, .string a, .string b, .int .i64 n] 38)).heap[w.heap.size]? = some (.cells #[.int .i64 id, .int .i64 se, .int .i64 nx, .slice ao m cap] 55 (0, 0))) := (two_newB (Below.refl _ _)).2
  have HO0 : Hid (((w.alloc (.cells #[.int .i64 id, .int .i64 se, .int .i64 nx, .slice ao m cap] 55)).alloc (.cells #[.int .i64 k, .string a, .string b, .int .i64 n] 38)).heap[w.heap.size + 1]? = some (.cells #[.int .i64 k, .string a, .string b, .int .i64 n] 38 (0, 0))) := (two_newB (Below.refl _ _)).1
  clear hv hcc hoe hkn hst hid hse hnx hm
  by_cases h1 : cc = 0
  · have CK2 := ghid (CK.out h1)
    obtain ⟨hk, hn⟩ := HKN.out h1
    subst h1
    by_cases h2 : se = 0
    · subst h2
      have HE : Hid (st = 11) := by unfold Hid; rw [HST.out, if_neg (by simp), if_pos rfl]
      clear hk hn
      go_enter Tryz.func195, Tryz.ntmps195
      go_wp2_with fail
      refine (C1.out _ HZ.out).mono ?_
      rintro e w1 ⟨rfl, hb1⟩
      have HB1 := ghid (HZ.out.trans (hb1.mono HZ.out.size))
      have HX1 := ghid (behind HX0.out (Below.refl _ _) hb1)
      have HO1 := ghid (behind HO0.out (Below.refl _ _) hb1)
      obtain ⟨c0, c1, c2, c3, cf, cl⟩ := state_cells HX1.out
      obtain ⟨o0, o1, o2, o3, of, ol⟩ := state_cells HO1.out
      clear hb1

      go_wp2
      go_ret
      exact ⟨by rw [HE.out]; rfl, HB1.out⟩
    · have hseb : (se == 0) = false := beq_eq_false_iff_ne.2 h2
      by_cases h3 : oe = 0
      · subst h3
        by_cases h4 : 1048576 < nx
        · have HE : Hid (st = 8) := by unfold Hid; rw [HST.out, if_neg (by simp), if_neg h2, if_neg (by simp), if_pos (.inl h4)]
          clear hk hn h2
          go_enter Tryz.func195, Tryz.ntmps195
          go_wp2_with fail
          refine (C1.out _ HZ.out).mono ?_
          rintro e w1 ⟨rfl, hb1⟩
          have HB1 := ghid (HZ.out.trans (hb1.mono HZ.out.size))
          have HX1 := ghid (behind HX0.out (Below.refl _ _) hb1)
          have HO1 := ghid (behind HO0.out (Below.refl _ _) hb1)
          obtain ⟨c0, c1, c2, c3, cf, cl⟩ := state_cells HX1.out
          obtain ⟨o0, o1, o2, o3, of, ol⟩ := state_cells HO1.out
          clear hb1

          go_wp2_with fail
          refine (C2.out _).mono ?_
          rintro e w2 ⟨rfl, hb2⟩
          have HB2 := ghid (HB1.out.trans (hb2.mono HB1.out.size))
          have HX2 := ghid (behind HX1.out (Below.refl _ _) hb2)
          clear c0 c1 c2 c3 cf cl o0 o1 o2 o3 of ol
          obtain ⟨c0, c1, c2, c3, cf, cl⟩ := state_cells HX2.out
          clear hb2

          go_wp2_with fail
          go_quiet (fail)
          go_wp2
          go_ret
          exact ⟨by rw [HE.out]; rfl, HB2.out.trans (g_drewN_below _ _ _)⟩
        · by_cases h5 : 4 < nx - kn
          · have HE : Hid (st = 8) := by unfold Hid; rw [HST.out, if_neg (by simp), if_neg h2, if_neg (by simp), if_pos (.inr h5)]
            have h4' : nx ≤ 1048576 := by omega
            have h4d : decide (1048576 < nx) = false := decide_eq_false h4
            have hkw : IntKind.i64.wrap (kn + 4) = kn + 4 := by rw [IntKind.wrap_i64]; omega
            have h5' : kn + 4 < nx := by omega
            clear h2
            go_enter Tryz.func195, Tryz.ntmps195
            go_wp2_with fail
            refine (C1.out _ HZ.out).mono ?_
            rintro e w1 ⟨rfl, hb1⟩
            have HB1 := ghid (HZ.out.trans (hb1.mono HZ.out.size))
            have HX1 := ghid (behind HX0.out (Below.refl _ _) hb1)
            have HO1 := ghid (behind HO0.out (Below.refl _ _) hb1)
            obtain ⟨c0, c1, c2, c3, cf, cl⟩ := state_cells HX1.out
            obtain ⟨o0, o1, o2, o3, of, ol⟩ := state_cells HO1.out
            clear hb1

            go_wp2_with fail
            refine (C2.out _).mono ?_
            rintro e w2 ⟨rfl, hb2⟩
            have HB2 := ghid (HB1.out.trans (hb2.mono HB1.out.size))
            have HX2 := ghid (behind HX1.out (Below.refl _ _) hb2)
            clear c0 c1 c2 c3 cf cl o0 o1 o2 o3 of ol
            obtain ⟨c0, c1, c2, c3, cf, cl⟩ := state_cells HX2.out
            clear hb2

            go_wp2_with fail
            go_region_held3 (fun w' => w'.cell? ⟨w.heap.size, 0, none⟩ = some (.int .i64 id) ∧ w'.cell? ⟨w.heap.size, 1, none⟩ = some (.int .i64 se) ∧ w'.cell? ⟨w.heap.size, 2, none⟩ = some (.int .i64 nx) ∧ w'.cell? ⟨w.heap.size, 3, none⟩ = some (.slice ao m cap)) (go_keep)
              ((go_at_call 194; refine (CK2.out _ HB2.out.drew).mono ?_; rintro e w3 ⟨rfl, hb3⟩; have HB3 := ghid (HB2.out.drew.trans (hb3.mono HB2.out.drew.size)); clear c0 c1 c2 c3 cf cl; obtain ⟨c0, c1, c2, c3, cf, cl⟩ := state_cells (behind HX2.out ((Below.refl _ _).drew) hb3); clear hb3))
            all_goals
              go_wp2
              go_ret
              exact ⟨by rw [HE.out]; rfl, HB3.out⟩
          · have HE : Hid (st = 0) := by unfold Hid; rw [HST.out, if_neg (by simp), if_neg h2, if_neg (by simp), if_neg (by omega)]
            have h4' : nx ≤ 1048576 := by omega
            have h4d : decide (1048576 < nx) = false := decide_eq_false h4
            have hkw : IntKind.i64.wrap (kn + 4) = kn + 4 := by rw [IntKind.wrap_i64]; omega
            have h5' : nx ≤ kn + 4 := by omega
            clear h2
            go_enter Tryz.func195, Tryz.ntmps195
            go_wp2_with fail
            refine (C1.out _ HZ.out).mono ?_
            rintro e w1 ⟨rfl, hb1⟩
            have HB1 := ghid (HZ.out.trans (hb1.mono HZ.out.size))
            have HX1 := ghid (behind HX0.out (Below.refl _ _) hb1)
            have HO1 := ghid (behind HO0.out (Below.refl _ _) hb1)
            obtain ⟨c0, c1, c2, c3, cf, cl⟩ := state_cells HX1.out
            obtain ⟨o0, o1, o2, o3, of, ol⟩ := state_cells HO1.out
            clear hb1

            go_wp2_with fail
            refine (C2.out _).mono ?_
            rintro e w2 ⟨rfl, hb2⟩
            have HB2 := ghid (HB1.out.trans (hb2.mono HB1.out.size))
            have HX2 := ghid (behind HX1.out (Below.refl _ _) hb2)
            clear c0 c1 c2 c3 cf cl o0 o1 o2 o3 of ol
            obtain ⟨c0, c1, c2, c3, cf, cl⟩ := state_cells HX2.out
            clear hb2

            go_wp2_with fail
            go_region_held3 (fun w' => w'.cell? ⟨w.heap.size, 0, none⟩ = some (.int .i64 id) ∧ w'.cell? ⟨w.heap.size, 1, none⟩ = some (.int .i64 se) ∧ w'.cell? ⟨w.heap.size, 2, none⟩ = some (.int .i64 nx) ∧ w'.cell? ⟨w.heap.size, 3, none⟩ = some (.slice ao m cap)) (go_keep)
              ((go_at_call 194; refine (CK2.out _ HB2.out.drew).mono ?_; rintro e w3 ⟨rfl, hb3⟩; have HB3 := ghid (HB2.out.drew.trans (hb3.mono HB2.out.drew.size)); clear c0 c1 c2 c3 cf cl; obtain ⟨c0, c1, c2, c3, cf, cl⟩ := state_cells (behind HX2.out ((Below.refl _ _).drew) hb3); clear hb3))
            all_goals
              go_wp2
              go_ret
              exact ⟨by rw [HE.out]; rfl, HB3.out⟩
      · have hob : (oe != 0) = true := by simpa using h3
        have HE : Hid (st = oe) := by unfold Hid; rw [HST.out, if_neg (by simp), if_neg h2, if_pos h3]
        clear hk hn h2 h3
        go_enter Tryz.func195, Tryz.ntmps195
        go_wp2_with fail
        refine (C1.out _ HZ.out).mono ?_
        rintro e w1 ⟨rfl, hb1⟩
        have HB1 := ghid (HZ.out.trans (hb1.mono HZ.out.size))
        have HX1 := ghid (behind HX0.out (Below.refl _ _) hb1)
        have HO1 := ghid (behind HO0.out (Below.refl _ _) hb1)
        obtain ⟨c0, c1, c2, c3, cf, cl⟩ := state_cells HX1.out
        obtain ⟨o0, o1, o2, o3, of, ol⟩ := state_cells HO1.out
        clear hb1

        go_wp2_with fail
        refine (C2.out _).mono ?_
        rintro e w2 ⟨rfl, hb2⟩
        have HB2 := ghid (HB1.out.trans (hb2.mono HB1.out.size))
        have HX2 := ghid (behind HX1.out (Below.refl _ _) hb2)
        clear c0 c1 c2 c3 cf cl o0 o1 o2 o3 of ol
        obtain ⟨c0, c1, c2, c3, cf, cl⟩ := state_cells HX2.out
        clear hb2

        go_wp2
        go_ret
        exact ⟨by rw [HE.out]; rfl, HB2.out⟩
  · have hcb : (cc != 0) = true := by simpa using h1
    have HE : Hid (st = cc) := by unfold Hid; rw [HST.out, if_pos h1]
    clear h1
    go_enter Tryz.func195, Tryz.ntmps195
    go_wp2_with fail
    refine (C1.out _ HZ.out).mono ?_
    rintro e w1 ⟨rfl, hb1⟩
    have HB1 := ghid (HZ.out.trans (hb1.mono HZ.out.size))
    have HX1 := ghid (behind HX0.out (Below.refl _ _) hb1)
    have HO1 := ghid (behind HO0.out (Below.refl _ _) hb1)
    obtain ⟨c0, c1, c2, c3, cf, cl⟩ := state_cells HX1.out
    obtain ⟨o0, o1, o2, o3, of, ol⟩ := state_cells HO1.out
    clear hb1

    go_wp2
    go_ret
    exact ⟨by rw [HE.out]; rfl, HB1.out⟩

end Go.Proofs.YtijilhbdbeajjaaGreatDoor

namespace Go.Proofs.YtijilhbdbeajjaaGreatDoor

open Go.RowKit

theorem set5w {α : Type} (A Z : List α) (z0 z1 z2 z3 z4 a b c d e : α) (n : Nat) (hA : A.length = n) :
    (((((A ++ z0 :: z1 :: z2 :: z3 :: z4 :: Z).set n a).set (n + 1) b).set (n + 2) c).set (n + 3) d).set (n + 4) e = A ++ a :: b :: c :: d :: e :: Z := by
  subst hA
  simp

/-- Five cells put into a row. -/
theorem put5w_own {w : World} {base : Nat} {t : TypeId} {g n cap k : Nat} {A Z : List Value} {z0 z1 z2 z3 z4 : Value} (h : w.ownsRow base t 5 (.slice (some ⟨g, 0, none⟩) n cap) n (A ++ z0 :: z1 :: z2 :: z3 :: z4 :: Z)) (hA : A.length = k * 5) (a b c d e : Value) :
    (((((w.setCell ⟨g, k * 5, none⟩ a).setCell ⟨g, k * 5 + 1, none⟩ b).setCell ⟨g, k * 5 + 2, none⟩ c).setCell ⟨g, k * 5 + 3, none⟩ d).setCell ⟨g, k * 5 + 4, none⟩ e).ownsRow base t 5 (.slice (some ⟨g, 0, none⟩) n cap) n (A ++ a :: b :: c :: d :: e :: Z) := by
  have h1 := (h.stored (k * 5) a).1
  have h2 := (h1.stored (k * 5 + 1) b).1
  have h3 := (h2.stored (k * 5 + 2) c).1
  have h4 := (h3.stored (k * 5 + 3) d).1
  have h5 := (h4.stored (k * 5 + 4) e).1
  rwa [set5w A Z z0 z1 z2 z3 z4 a b c d e (k * 5) hA] at h5

theorem put5w_below {B : Nat} {w0 w : World} (h : Below B w0 w) {g k : Nat} (hg : B ≤ g) (a b c d e : Value) :
    Below B w0 (((((w.setCell ⟨g, k * 5, none⟩ a).setCell ⟨g, k * 5 + 1, none⟩ b).setCell ⟨g, k * 5 + 2, none⟩ c).setCell ⟨g, k * 5 + 3, none⟩ d).setCell ⟨g, k * 5 + 4, none⟩ e) :=
  ((((h.setCell (by simpa using hg) a).setCell (by simpa using hg) b).setCell (by simpa using hg) c).setCell (by simpa using hg) d).setCell (by simpa using hg) e

theorem five_ofw {α : Type} (Z : List α) (h : 5 ≤ Z.length) : ∃ z0 z1 z2 z3 z4 Z', Z = z0 :: z1 :: z2 :: z3 :: z4 :: Z' := by
  match Z, h with
  | z0 :: z1 :: z2 :: z3 :: z4 :: Z', _ => exact ⟨z0, z1, z2, z3, z4, Z', rfl⟩

/-- A row of calls that was made by the call, behind a result put into its block. -/
theorem put5w_heap {w : World} {g k p : Nat} (hp : p ≠ g) (a b c d e : Value) :
    (((((w.setCell ⟨g, k * 5, none⟩ a).setCell ⟨g, k * 5 + 1, none⟩ b).setCell ⟨g, k * 5 + 2, none⟩ c).setCell ⟨g, k * 5 + 3, none⟩ d).setCell ⟨g, k * 5 + 4, none⟩ e).heap[p]? = w.heap[p]? := by
  rw [heap_setCell_other _ _ _ _ (by simpa using hp), heap_setCell_other _ _ _ _ (by simpa using hp), heap_setCell_other _ _ _ _ (by simpa using hp), heap_setCell_other _ _ _ _ (by simpa using hp), heap_setCell_other _ _ _ _ (by simpa using hp)]

set_option maxRecDepth 100000 in
set_option maxHeartbeats 1600000 in
theorem custCopy_own (v : Value) (c : CustD) (w : World) (B : Nat) (hv : CustR w B v c) (hB : B ≤ w.heap.size) :
    Calls Tryz.prog 196 #[v] w fun e w' => e = .returned (.agg #[.int .i64 c.id, .int .i64 c.session, .int .i64 c.next, .slice (some ⟨w.heap.size + 2, 0, none⟩) c.waits.length c.waits.length]) ∧ w'.ownsRow (w.heap.size + 2) 156 5 (.slice (some ⟨w.heap.size + 2, 0, none⟩) c.waits.length c.waits.length) c.waits.length (flatG waitCells c.waits) ∧ Below w.heap.size w w' := by
  obtain ⟨i0, hi, hz0, hz1, hz2⟩ := info_parts Tryz.infoWait
  obtain ⟨ao, cap, rfl, hw⟩ := hv.shape
  obtain ⟨id, se, nx, ws⟩ := c
  simp only at hw ⊢
  have HWR := ghid hw
  have hlen := hw.len
  have hZ : Below w.heap.size w ((w.alloc (.cells #[.int .i64 id, .int .i64 se, .int .i64 nx, .slice ao ws.length cap] 55)).alloc (.cells #[.int .i64 0, .int .i64 0, .int .i64 0, .slice none 0 0] 55)) := ((Below.refl _ _).alloc (Nat.le_refl _) _).alloc (by simp) _
  obtain ⟨hr0, hx0⟩ := two_newB (w := w) (A := .cells #[.int .i64 id, .int .i64 se, .int .i64 nx, .slice ao ws.length cap] 55) (R := .cells #[.int .i64 0, .int .i64 0, .int .i64 0, .slice none 0 0] 55) (Below.refl _ _)
  have HZ := ghid hZ
  have HX0 := ghid hx0
  have HR0 := ghid hr0
  clear hv hw hZ hr0 hx0
  go_enter Tryz.func196, Tryz.ntmps196
  go_wp2_with (at_make; refine wpList_make_full _ rfl (.tmp 8) (.tmp 8) 53 rfl (w.heap.size + 2) 156 i0 _ 5 Tryz.underlying53 hi hz0 hz1 .i64 .i64 _ _ ws.length rfl rfl rfl rfl (by rw [hz2]; omega) (by unfold maxLen; omega) (by simp) ?_)
  intro w1 hown1 hgrow1
  have hx1 : w1.heap[w.heap.size]? = _ := (hgrow1.block _ (by simp; omega) (by intro h; cases h)).trans HX0.out
  have hr1 : w1.heap[w.heap.size + 1]? = _ := (hgrow1.block _ (by simp) (by intro h; cases h)).trans HR0.out
  have hb1 : Below w.heap.size w w1 := HZ.out.grown hgrow1 (by simp; omega) (fun k hk => by cases hk)
  obtain ⟨Z, HO1, hZl⟩ : ∃ Z : List Value, Hid (w1.ownsRow (w.heap.size + 1 + 1) 156 5 (.slice (some ⟨w.heap.size + 1 + 1, 0, none⟩) ws.length ws.length) ws.length Z) ∧ Z.length = ws.length * 5 := ⟨_, hown1, by simp [size_madeCells]⟩
  have HX1 := ghid hx1
  have HR1 := ghid hr1
  obtain ⟨c0, c1, c2, c3, cf, cl⟩ := state_cells hx1
  clear hown1 hgrow1 hi hz0 hz1 hz2 hx1 hr1
  go_wp2_with fail
  clear c0 c1 c2 c3 cf cl
  go_loopw [13] (fun i wr => ∃ (k : Nat) (Z : List Value), k ≤ ws.length ∧ i = .int .i64 k ∧ Z.length = (ws.length - k) * 5 ∧
      wr.ownsRow (w.heap.size + 1 + 1) 156 5 (.slice (some ⟨w.heap.size + 1 + 1, 0, none⟩) ws.length ws.length) ws.length (flatG waitCells (ws.take k) ++ Z) ∧
      wr.heap[w.heap.size]? = some (.cells #[.int .i64 id, .int .i64 se, .int .i64 nx, .slice ao ws.length cap] 55 (0, 0)) ∧ wr.heap[w.heap.size + 1]? = some (.cells #[.int .i64 0, .int .i64 0, .int .i64 0, .slice none 0 0] 55 (0, 0)) ∧ Below w.heap.size w wr)
    (fun i _ => ws.length - (intOf i).toNat)
  case atStart => exact ⟨0, Z, Nat.zero_le _, rfl, by simpa using hZl, by simpa [flatG] using HO1.out, HX1.out, HR1.out, hb1⟩
  case round =>
    clear HO1 hb1 HX1 HR1
    obtain ⟨k, Z, hk, rfl, hZl, hown, hx, hr, hb⟩ := hrel
    have HX := ghid hx
    have HR := ghid hr
    by_cases hlt : k < ws.length
    · obtain ⟨ao', cap', he, -, -, -, h4⟩ := HWR.out.below hb hB
      simp only [Value.slice.injEq] at he
      obtain ⟨rfl, -, rfl⟩ := he
      obtain ⟨b, off, rfl, hbB, hc⟩ := h4 (by omega)
      obtain ⟨x, hxe⟩ : ∃ x, ws[k]? = some x := ⟨_, List.getElem?_eq_getElem hlt⟩
      obtain ⟨c0, c1, c2, c3, c4, hs1, hs2, -⟩ := hc k x hxe
      have HXF : Hid (flatG waitCells (ws.take (k + 1)) = flatG waitCells (ws.take k) ++ waitCells x) := by
        unfold Hid
        rw [List.take_succ_eq_append_getElem hlt, flatG_snoc, (List.getElem?_eq_some_iff.1 hxe).2]
      have hsz := hb.size
      have hbr : b < wr.heap.size := by omega
      clear hxe hc h4
      obtain ⟨xq, xk, xa, xb, xn⟩ := x
      simp only at c0 c1 c2 c3 c4 hs1 hs2
      obtain ⟨z0, z1, z2, z3, z4, Z', hZe⟩ := five_ofw Z (by omega)
      subst hZe
      have hkl : (flatG waitCells (ws.take k)).length = k * 5 := by rw [flatG_length waitCells_len, List.length_take]; omega
      have hwg : w.heap.size + 1 + 1 < wr.heap.size := (hown.lt _ rfl).2
      have hwg1 : w.heap.size + 1 < wr.heap.size := by omega
      have hwg0 : w.heap.size < wr.heap.size := by omega
      have HY : Hid (∀ u, Below (wr.heap.size + 1) (wr.alloc (.cells #[.int .i64 xq, .int .i64 xk, .string xa, .string xb, .int .i64 xn] 156)) u → u.cell? ⟨w.heap.size + 1 + 1, k * 5, none⟩ = some z0 ∧ u.cell? ⟨w.heap.size + 1 + 1, k * 5 + 1, none⟩ = some z1 ∧ u.cell? ⟨w.heap.size + 1 + 1, k * 5 + 2, none⟩ = some z2 ∧ u.cell? ⟨w.heap.size + 1 + 1, k * 5 + 3, none⟩ = some z3 ∧ u.cell? ⟨w.heap.size + 1 + 1, k * 5 + 4, none⟩ = some z4 ∧ ∀ j, u.frozen? ⟨w.heap.size + 1 + 1, j, none⟩ = false) := fun u hu => by
        have hr := grow_below hown (((Below.refl wr.heap.size wr).alloc (Nat.le_refl _) (.cells #[.int .i64 xq, .int .i64 xk, .string xa, .string xb, .int .i64 xn] 156)).trans (hu.mono (by simp))) (Nat.le_refl _)
        have y : ∀ j z, (z0 :: z1 :: z2 :: z3 :: z4 :: Z')[j]? = some z → j < 5 → u.cell? ⟨w.heap.size + 1 + 1, k * 5 + j, none⟩ = some z := fun j z hz hj => by
          rw [hr.cellAt (k * 5 + j) (by omega), List.getElem?_append_right (by omega), hkl, show k * 5 + j - k * 5 = j by omega]
          exact hz
        exact ⟨y 0 z0 rfl (by omega), y 1 z1 rfl (by omega), y 2 z2 rfl (by omega), y 3 z3 rfl (by omega), y 4 z4 rfl (by omega), fun j => hr.frozenAt j⟩
      have HO := ghid hown
      have HB := ghid hb
      have HKL := ghid hkl
      have hba : Below wr.heap.size wr (wr.alloc (.cells #[.int .i64 xq, .int .i64 xk, .string xa, .string xb, .int .i64 xn] 156)) := (Below.refl _ _).alloc (Nat.le_refl _) _
      have HBA := ghid hba
      clear hown hkl hb hba hx hr
      go_wp2_with fail
      go_region_with (go_at_call 197; refine (copyOp_any xk xn xa xb _ hs1 hs2).mono ?_; rintro e w2 ⟨rfl, hb2⟩; have hb3 : Below (wr.heap.size + 1) (wr.alloc (.cells #[.int .i64 xq, .int .i64 xk, .string xa, .string xb, .int .i64 xn] 156)) w2 := ⟨hb2.os, hb2.tape, hb2.output, hb2.size, fun k hk => hb2.block k (by simpa using hk)⟩; obtain ⟨y0, y1, y2, y3, y4, yf⟩ := HY.out w2 hb3; obtain ⟨q0, q1, q2, q3, q4, qf, ql⟩ := five_cells ((hb3.block wr.heap.size (Nat.lt_succ_self _)).trans (heap_alloc_new wr _)); have hz2 : wr.heap.size < w2.heap.size := (by have := hb2.size; simp at this; omega); have hz3 : w.heap.size + 1 + 1 < w2.heap.size := (by omega); clear hb2)
      all_goals
        have HB2 := ghid (HBA.out.trans (hb3.mono (by omega)))
        clear hb3
        go_wp2
        go_roundw
        case rel =>
          refine ⟨k + 1, Z', by omega, by go_num, by simp at hZl; omega, ?_, ?_, ?_, ?_⟩
          · rw [HXF.out]
            have := put5w_own (grow_below HO.out HB2.out (Nat.le_refl _)) HKL.out (.int .i64 xq) (.int .i64 xk) (.string xa) (.string xb) (.int .i64 xn)
            simpa [waitCells] using this
          · rw [put5w_heap (by omega)]
            exact (HB2.out.block _ (by omega)).trans HX.out
          · rw [put5w_heap (by omega)]
            exact (HB2.out.block _ (by omega)).trans HR.out
          · exact put5w_below (HB.out.trans (HB2.out.mono hsz)) (by omega) _ _ _ _ _
        case measure => simp [intOf]; omega
    · have hkl : k = ws.length := by omega
      subst hkl
      have hZ0 : Z = [] := List.eq_nil_of_length_eq_zero (by omega)
      subst hZ0
      have hown' : wr.ownsRow (w.heap.size + 1 + 1) 156 5 (.slice (some ⟨w.heap.size + 1 + 1, 0, none⟩) ws.length ws.length) ws.length (flatG waitCells ws) := by simpa using hown
      have hne : w.heap.size ≠ w.heap.size + 1 + 1 := by omega
      have hset : ∀ a, (wr.setCell ⟨w.heap.size, 3, none⟩ a).heap[w.heap.size + 1]? = some (.cells #[.int .i64 0, .int .i64 0, .int .i64 0, .slice none 0 0] 55 (0, 0)) := fun a => (heap_setCell_other _ _ _ _ (by simp)).trans HR.out
      have hsx := heap_set (j := 3) hx (.slice (some ⟨w.heap.size + 1 + 1, 0, none⟩) ws.length ws.length)
      obtain ⟨c0, c1, c2, c3, cf, cl⟩ := state_cells hx
      obtain ⟨r0, r1, r2, r3, rf, rl⟩ := state_cells hr
      have HO : Hid (∀ a0 a1 a2 a3 a4, (((((wr.setCell ⟨w.heap.size, 3, none⟩ a4).setCell ⟨w.heap.size + 1, 0, none⟩ a0).setCell ⟨w.heap.size + 1, 1, none⟩ a1).setCell ⟨w.heap.size + 1, 2, none⟩ a2).setCell ⟨w.heap.size + 1, 3, none⟩ a3).ownsRow (w.heap.size + 1 + 1) 156 5 (.slice (some ⟨w.heap.size + 1 + 1, 0, none⟩) ws.length ws.length) ws.length (flatG waitCells ws)) := fun a0 a1 a2 a3 a4 => grow_keep hown' fun b hbk => by
        have e : w.heap.size + 1 + 1 = b := by simpa [Value.ownBlock] using hbk
        rw [heap_setCell_other _ _ _ _ (by simp; omega), heap_setCell_other _ _ _ _ (by simp; omega), heap_setCell_other _ _ _ _ (by simp; omega), heap_setCell_other _ _ _ _ (by simp; omega), heap_setCell_other _ _ _ _ (by simp; omega)]
      have HB := ghid hb
      clear hown hown' hx hr hb hset hsx
      go_wp2
      refine bodyPost_ret (v := .agg #[.int .i64 id, .int .i64 se, .int .i64 nx, (.slice (some ⟨w.heap.size + 1 + 1, 0, none⟩) ws.length ws.length)]) (by simp [results, Tryz.results196, go_sem, r0, r1, r2, r3]) rfl ?_
      exact ⟨rfl, HO.out _ _ _ _ _, zset4 (HB.out.setCell (by simp) _) (by omega) _ _ _ _⟩

end Go.Proofs.YtijilhbdbeajjaaGreatDoor

namespace Go.Proofs.YtijilhbdbeajjaaGreatDoor

open Go.RowKit

/-- Three blocks made ahead of a callee. -/
theorem three_newC {w w2 : World} {A R S : Obj} (hb : Below (w.heap.size + 3) (((w.alloc A).alloc R).alloc S) w2) : w2.heap[w.heap.size]? = some A ∧ w2.heap[w.heap.size + 1]? = some R ∧ w2.heap[w.heap.size + 1 + 1]? = some S := by
  have h1 := heap_alloc_new ((w.alloc A).alloc R) S
  rw [World.size_alloc, World.size_alloc] at h1
  obtain ⟨h2, h3⟩ := two_newB (w := w) (A := A) (R := R) (Below.refl _ _)
  refine ⟨?_, ?_, ?_⟩
  · rw [hb.block _ (by omega), Below.heap_alloc _ _ _ (by simp; omega)]
    exact h3
  · rw [hb.block _ (by omega), Below.heap_alloc _ _ _ (by simp)]
    exact h2
  · rw [hb.block _ (by omega)]
    exact h1

end Go.Proofs.YtijilhbdbeajjaaGreatDoor

namespace Go.Proofs.YtijilhbdbeajjaaGreatDoor

open Go.RowKit

set_option maxRecDepth 100000 in
set_option maxHeartbeats 3200000 in
theorem Start_bad (v : Value) (c : CustD) (k n : Int) (a b : ByteArray) (w : World) (B : Nat) (hv : CustR w B v c) (hB : B ≤ w.heap.size) (ha : a.size ≤ 140737488351232) (hb : b.size ≤ 140737488351232) (hs : startE c k a b n ≠ 0) :
    Calls Tryz.prog 148 #[v, .agg #[.int .i64 k, .string a, .string b, .int .i64 n]] w fun e w' => e = .returned (.tuple #[.agg #[.int .i64 0, .int .i64 0, .int .i64 0, .slice none 0 0], .int .i64 (startE c k a b n)]) ∧ Below w.heap.size w w' := by
  have C1 := ghid (fun u (hu : Below w.heap.size w u) => refuseStart_any v c k n a b u B (hv.below hu hB) (by have := hu.size; omega) ha hb)
  obtain ⟨id, se, nx, ao, m, cap, rfl⟩ := hv.raw
  obtain ⟨st, hst⟩ : ∃ z, z = startE c k a b n := ⟨_, rfl⟩
  rw [← hst] at C1 hs ⊢
  have HZ : Hid (Below w.heap.size w (((w.alloc (.cells #[.int .i64 id, .int .i64 se, .int .i64 nx, .slice ao m cap] 55)).alloc (.cells #[.int .i64 k, .string a, .string b, .int .i64 n] 38)).alloc (.cells #[.int .i64 0, .int .i64 0, .int .i64 0, .slice none 0 0] 55))) := (((Below.refl _ _).alloc (Nat.le_refl _) _).alloc (by simp) _).alloc (by simp; omega) _
  have HR0 : Hid ((((w.alloc (.cells #[.int .i64 id, .int .i64 se, .int .i64 nx, .slice ao m cap] 55)).alloc (.cells #[.int .i64 k, .string a, .string b, .int .i64 n] 38)).alloc (.cells #[.int .i64 0, .int .i64 0, .int .i64 0, .slice none 0 0] 55)).heap[w.heap.size + 1 + 1]? = some (.cells #[.int .i64 0, .int .i64 0, .int .i64 0, .slice none 0 0] 55 (0, 0))) := (three_newC (Below.refl _ _)).2.2
  have hsb : (st != 0) = true := by simpa using hs
  clear hv hst hs
  go_enter Tryz.func148, Tryz.ntmps148
  go_wp2_with fail
  refine (C1.out _ HZ.out).mono ?_
  rintro e w1 ⟨rfl, hb1⟩
  have HB1 := ghid (HZ.out.trans (hb1.mono HZ.out.size))
  obtain ⟨r0, r1, r2, r3, rf, rl⟩ := state_cells (behind HR0.out (Below.refl _ _) hb1)
  clear hb1
  go_wp2
  refine bodyPost_ret (v := .tuple #[.agg #[.int .i64 0, .int .i64 0, .int .i64 0, .slice none 0 0], .int .i64 st]) (by simp [results, Tryz.results148, go_sem, r0, r1, r2, r3]) rfl ?_
  exact ⟨rfl, zset4 HB1.out (by omega) _ _ _ _⟩

set_option maxRecDepth 100000 in
set_option maxHeartbeats 3200000 in
theorem Start_ok (v : Value) (c : CustD) (k n : Int) (a b : ByteArray) (w : World) (B : Nat) (hv : CustR w B v c) (hB : B ≤ w.heap.size) (ha : a.size ≤ 140737488351232) (hb : b.size ≤ 140737488351232) (hs : startE c k a b n = 0) :
    Calls Tryz.prog 148 #[v, .agg #[.int .i64 k, .string a, .string b, .int .i64 n]] w fun e w' => ∃ vo vc, e = .returned (.tuple #[.agg #[.int .i64 c.id, .int .i64 c.session, .int .i64 (c.next + 1), .slice vo (c.waits.length + 1) vc], .int .i64 0]) ∧ w'.ownsRow w.heap.size 156 5 (.slice vo (c.waits.length + 1) vc) (c.waits.length + 1) (flatG waitCells (c.waits ++ [⟨c.next, k, a, b, n⟩])) ∧ Below w.heap.size w w' := by
  obtain ⟨i0, hi, hz0, hz1, hz2⟩ := info_parts Tryz.infoWait
  have C1 := ghid (fun u (hu : Below w.heap.size w u) => refuseStart_any v c k n a b u B (hv.below hu hB) (by have := hu.size; omega) ha hb)
  rw [hs] at C1
  have C2 := ghid (fun u (hu : Below w.heap.size w u) => custCopy_own v c u B (hv.below hu hB) (by have := hu.size; omega))
  have CO := ghid (fun u => copyOp_any k n a b u ha hb)
  have hc : checkC c = 0 := by
    unfold startE at hs
    by_cases e : checkC c = 0
    · exact e
    · rw [if_pos e] at hs; exact absurd hs e
  have hlen := (GoodC.of hc).len
  have hnx := (GoodC.of hc).next
  have HFS : Hid (flatG waitCells (c.waits ++ [⟨c.next, k, a, b, n⟩]) = flatG waitCells c.waits ++ waitCells ⟨c.next, k, a, b, n⟩) := flatG_snoc _ _
  obtain ⟨ao, cap, rfl, -⟩ := hv.shape
  obtain ⟨id, se, nx, ws⟩ := c
  simp only at C1 C2 hlen hnx HFS ⊢
  obtain ⟨m, hm⟩ : ∃ z, z = ws.length := ⟨_, rfl⟩
  obtain ⟨fl, hfl⟩ : ∃ z, z = flatG waitCells ws := ⟨_, rfl⟩
  rw [← hm] at C1 C2 hlen
  rw [← hfl] at C2 HFS
  rw [← hm]
  have HZ : Hid (Below w.heap.size w (((w.alloc (.cells #[.int .i64 id, .int .i64 se, .int .i64 nx, .slice ao m cap] 55)).alloc (.cells #[.int .i64 k, .string a, .string b, .int .i64 n] 38)).alloc (.cells #[.int .i64 0, .int .i64 0, .int .i64 0, .slice none 0 0] 55))) := (((Below.refl _ _).alloc (Nat.le_refl _) _).alloc (by simp) _).alloc (by simp; omega) _
  obtain ⟨hx0, ho0, hr0⟩ := three_newC (w := w) (A := (.cells #[.int .i64 id, .int .i64 se, .int .i64 nx, .slice ao m cap] 55)) (R := (.cells #[.int .i64 k, .string a, .string b, .int .i64 n] 38)) (S := (.cells #[.int .i64 0, .int .i64 0, .int .i64 0, .slice none 0 0] 55)) (Below.refl _ _)
  have HX0 := ghid hx0
  have HO0 := ghid ho0
  have HR0 := ghid hr0
  have hnw : IntKind.i64.wrap (nx + 1) = nx + 1 := by rw [IntKind.wrap_i64]; omega
  clear hv hs hc hm hfl hx0 ho0 hr0 ha hb
  go_enter Tryz.func148, Tryz.ntmps148
  go_wp2_with fail
  refine (C1.out _ HZ.out).mono ?_
  rintro e w1 ⟨rfl, hb1⟩
  have HB1 := ghid (HZ.out.trans (hb1.mono HZ.out.size))
  have HX1 := ghid (behind HX0.out (Below.refl _ _) hb1)
  have HO1 := ghid (behind HO0.out (Below.refl _ _) hb1)
  have HR1 := ghid (behind HR0.out (Below.refl _ _) hb1)
  obtain ⟨c0, c1, c2, c3, cf, cl⟩ := state_cells HX1.out
  have hzz1 : w.heap.size + 3 ≤ w1.heap.size := by have := hb1.size; simpa using this
  clear hb1 C1
  go_wp2_with fail
  refine (C2.out _ HB1.out).mono ?_
  rintro e w2 ⟨rfl, hrow, hb2⟩
  obtain ⟨rb, hrb⟩ : ∃ x, x = w1.heap.size + 2 := ⟨_, rfl⟩
  rw [← hrb] at hrow ⊢
  have hrl : rb < w2.heap.size := (hrow.lt rb rfl).2
  have hx2 := behind HX1.out (Below.refl _ _) hb2
  have ho2 := behind HO1.out (Below.refl _ _) hb2
  have hr2 := behind HR1.out (Below.refl _ _) hb2
  have hz2' : w.heap.size + 3 ≤ w2.heap.size := by have := hb2.size; omega
  have hq : Below w2.heap.size w2 (w2.alloc (.cells #[.int .i64 id, .int .i64 se, .int .i64 nx, .slice (some ⟨rb, 0, none⟩) m m] 55)).drew := ((Below.refl _ _).alloc (Nat.le_refl _) _).drew
  have HB2 := ghid ((HB1.out.trans (hb2.mono HB1.out.size)).trans (hq.mono (by omega)))
  have HROW2 := ghid (grow_below (grow_mono hrow (by omega : w.heap.size + 3 ≤ rb)) hq (Nat.le_refl _))
  have HX2 : Hid ((w2.alloc (.cells #[.int .i64 id, .int .i64 se, .int .i64 nx, .slice (some ⟨rb, 0, none⟩) m m] 55)).drew.heap[w.heap.size]? = some (.cells #[.int .i64 id, .int .i64 se, .int .i64 nx, .slice ao m cap] 55 (0, 0))) := (hq.block _ (by omega)).trans hx2
  have HO2 : Hid ((w2.alloc (.cells #[.int .i64 id, .int .i64 se, .int .i64 nx, .slice (some ⟨rb, 0, none⟩) m m] 55)).drew.heap[w.heap.size + 1]? = some (.cells #[.int .i64 k, .string a, .string b, .int .i64 n] 38 (0, 0))) := (hq.block _ (by omega)).trans ho2
  have HR2 : Hid ((w2.alloc (.cells #[.int .i64 id, .int .i64 se, .int .i64 nx, .slice (some ⟨rb, 0, none⟩) m m] 55)).drew.heap[w.heap.size + 1 + 1]? = some (.cells #[.int .i64 0, .int .i64 0, .int .i64 0, .slice none 0 0] 55 (0, 0))) := (hq.block _ (by omega)).trans hr2
  have HQ2 : Hid ((w2.alloc (.cells #[.int .i64 id, .int .i64 se, .int .i64 nx, .slice (some ⟨rb, 0, none⟩) m m] 55)).drew.heap[w2.heap.size]? = some (.cells #[.int .i64 id, .int .i64 se, .int .i64 nx, .slice (some ⟨rb, 0, none⟩) m m] 55 (0, 0))) := heap_alloc_new w2 _
  have HS2 : Hid ((w2.alloc (.cells #[.int .i64 id, .int .i64 se, .int .i64 nx, .slice (some ⟨rb, 0, none⟩) m m] 55)).drew.heap.size = w2.heap.size + 1) := by unfold Hid; simp
  clear c0 c1 c2 c3 cf cl
  obtain ⟨c0, c1, c2, c3, cf, cl⟩ := state_cells hx2
  obtain ⟨o0, o1, o2, o3, of, ol⟩ := state_cells ho2
  have hrw : w.heap.size + 3 ≤ rb := by omega
  clear hrow hb2 hq hx2 ho2 hr2 C2 hrb
  go_wp2_with fail
  go_region_law (first
    | (go_simp; go_at_call 197; refine (CO.out _).mono ?_; rintro e w3 ⟨rfl, hb3⟩; have HB3 := ghid (HB2.out.trans (hb3.mono HB2.out.size)); have HROW3 := ghid (grow_below HROW2.out hb3 (Nat.le_refl _)); have HX3 := ghid (behind HX2.out (Below.refl _ _) hb3); have HR3 := ghid (behind HR2.out (Below.refl _ _) hb3); have HQ3 := ghid (behind HQ2.out (Below.refl _ _) hb3); have hz3 : w2.heap.size < w3.heap.size := (by have := hb3.size; have := HS2.out; omega); clear hb3 c0 c1 c2 c3 cf cl o0 o1 o2 o3 of ol; obtain ⟨c0, c1, c2, c3, cf, cl⟩ := state_cells HX3.out; obtain ⟨q0, q1, q2, q3, qf, ql⟩ := state_cells HQ3.out)
    | (refine step_append_lies _ (by rfl) (.tmp 18) (.tmp 24) 53 (by rfl) (w.heap.size + 3) 156 i0 _ 5 56 Tryz.underlying53 hi hz0 hz1 hz2 rfl (by decide) (.slice (some ⟨rb, 0, none⟩) m m) m fl (by rfl) (HROW3.out.alloc _) ⟨w3.heap.size, 0, none⟩ 1 1 (waitCells ⟨nx, k, a, b, n⟩) (by rfl) (by rfl) (World.news_of_block (heap_alloc_new w3 _)) (waitCells_one _) (by omega) (by unfold maxLen; omega) (by omega) (by simp; omega) (w3.heap.size + 1) (by simp) ?_; intro g gc w4 hown4 hg4 hat4 hlt4; have hgr : g ≠ w2.heap.size := (hat4.elim (fun e => by simp [Value.ownBlock] at e; omega) (fun e => by omega)); have hgb := (hown4.lt g rfl).1; have HB4 := ghid (((HB3.out.alloc HB3.out.size (.cells #[.int .i64 nx, .int .i64 k, .string a, .string b, .int .i64 n] 156)).grown hg4 (by simp; omega) (fun j hj => by simp [Value.ownBlock] at hj; omega))); have hq4 : w4.heap[w2.heap.size]? = some (.cells #[.int .i64 id, .int .i64 se, .int .i64 nx, .slice (some ⟨rb, 0, none⟩) m m] 55 (0, 0)) := ((hg4.block _ (by simp; omega) (by simp [Value.ownBlock]; omega)).trans (Below.heap_alloc w3 _ _ hz3)).trans HQ3.out; have hr4 : w4.heap[w.heap.size + 1 + 1]? = some (.cells #[.int .i64 0, .int .i64 0, .int .i64 0, .slice none 0 0] 55 (0, 0)) := ((hg4.block _ (by simp; omega) (by simp [Value.ownBlock]; omega)).trans (Below.heap_alloc w3 _ _ (by omega))).trans HR3.out; have HQ4 := ghid hq4; have HR4 := ghid hr4; have HOWN4 := ghid hown4; clear c0 c1 c2 c3 cf cl q0 q1 q2 q3 qf ql; obtain ⟨q0, q1, q2, q3, qf, ql⟩ := state_cells hq4; obtain ⟨r0, r1, r2, r3, rf, rl⟩ := state_cells hr4; have hz4 : w3.heap.size < w4.heap.size := (by have := hg4.size; simp at this; omega); clear hown4 hg4 hq4 hr4))
  all_goals
    have HROW : Hid (∀ u0 u1 u2 u3 u4 u5, ((((((w4.setCell ⟨w2.heap.size, 3, none⟩ u4).setCell ⟨w2.heap.size, 2, none⟩ u5).setCell ⟨w.heap.size + 1 + 1, 0, none⟩ u0).setCell ⟨w.heap.size + 1 + 1, 1, none⟩ u1).setCell ⟨w.heap.size + 1 + 1, 2, none⟩ u2).setCell ⟨w.heap.size + 1 + 1, 3, none⟩ u3).ownsRow w.heap.size 156 5 (.slice (some ⟨g, 0, none⟩) (m + 1) gc) (m + 1) (fl ++ waitCells ⟨nx, k, a, b, n⟩)) := fun u0 u1 u2 u3 u4 u5 => grow_keep (grow_mono HOWN4.out (by omega)) fun j hj => by
      have e : g = j := by simpa [Value.ownBlock] using hj
      subst e
      rw [heap_setCell_other _ _ _ _ (by simp; omega), heap_setCell_other _ _ _ _ (by simp; omega), heap_setCell_other _ _ _ _ (by simp; omega), heap_setCell_other _ _ _ _ (by simp; omega), heap_setCell_other _ _ _ _ (by simp; omega), heap_setCell_other _ _ _ _ (by simp; omega)]
    have HBF := ghid (fun u0 u1 u2 u3 u4 u5 => zset4 ((HB4.out.setCell (by simp; omega) u4 : Below w.heap.size w (w4.setCell ⟨w2.heap.size, 3, none⟩ u4)).setCell (by simp; omega) u5 : Below w.heap.size w ((w4.setCell ⟨w2.heap.size, 3, none⟩ u4).setCell ⟨w2.heap.size, 2, none⟩ u5)) (b := w.heap.size + 1 + 1) (by omega) u0 u1 u2 u3)
    clear HOWN4 HB4 HQ4 HR4 HROW3 HX3 HR3 HQ3 hgb
    go_wp2
    refine bodyPost_ret (v := .tuple #[.agg #[.int .i64 id, .int .i64 se, .int .i64 (nx + 1), .slice (some ⟨g, 0, none⟩) (m + 1) gc], .int .i64 0]) (by simp [results, Tryz.results148, go_sem, r0, r1, r2, r3]) rfl ?_
    exact ⟨_, _, rfl, by rw [HFS.out]; exact HROW.out _ _ _ _ _ _, HBF.out _ _ _ _ _ _⟩

end Go.Proofs.YtijilhbdbeajjaaGreatDoor

namespace Go.Proofs.YtijilhbdbeajjaaGreatDoor

open Go.RowKit

/-- customer.Start, whatever it answers. -/
theorem Start_any (v : Value) (c : CustD) (k n : Int) (a b : ByteArray) (w : World) (B : Nat) (hv : CustR w B v c) (hB : B ≤ w.heap.size) (ha : a.size ≤ 140737488351232) (hb : b.size ≤ 140737488351232) :
    Calls Tryz.prog 148 #[v, .agg #[.int .i64 k, .string a, .string b, .int .i64 n]] w fun e w' => ∃ v', e = .returned (.tuple #[v', .int .i64 (startE c k a b n)]) ∧ CustO w' w.heap.size v' (if startE c k a b n = 0 then startL c k a b n else .zero) ∧ Below w.heap.size w w' := by
  by_cases hs : startE c k a b n = 0
  · refine (Start_ok v c k n a b w B hv hB ha hb hs).mono ?_
    rintro e w' ⟨vo, vc, rfl, hrow, hbw⟩
    obtain ⟨wv, rfl, hw⟩ := hv
    have hg : checkC c = 0 := by
      unfold startE at hs
      by_cases e : checkC c = 0
      · exact e
      · rw [if_pos e] at hs; exact absurd hs e
    have hl := (GoodC.of hg).len
    have hle : (startL c k a b n).waits.length = c.waits.length + 1 := by simp [startL]
    rw [if_pos hs, hs]
    refine ⟨_, rfl, ⟨vo, vc, by rw [hle]; rfl, by rw [hle]; exact hrow, by rw [hle]; omega, fun x hx => ?_⟩, hbw⟩
    rcases List.mem_append.1 hx with hx | hx
    · exact hw.modest x hx
    · simp only [List.mem_singleton] at hx
      subst hx
      exact ⟨ha, hb⟩
  · refine (Start_bad v c k n a b w B hv hB ha hb hs).mono ?_
    rintro e w' ⟨rfl, hbw⟩
    rw [if_neg hs]
    exact ⟨_, rfl, CustO.zero _ _, hbw⟩

section

variable {gh g2 ev : Value} {p : Nat} {K : Nat → Prop} {rv cv mv tv : Value} {xs : List RepV} {cs : List CustV} {t : TownD}

set_option maxRecDepth 100000 in
set_option maxHeartbeats 3200000 in
theorem start_town {w0 : World} (h0 : TownM 32 [gh, g2, ev] w0 p K rv cv mv tv xs cs t) {k : Nat} {c : CustD} (hk : t.custs[k]? = some c) (ok on : Int) (oa ob : ByteArray) (hoa : oa.size ≤ 140737488351232) (hob : ob.size ≤ 140737488351232) (R : TownD × Int) (hR : R = if startE c ok oa ob on ≠ 0 then (t, startE c ok oa ob on) else (t.setCust k (startL c ok oa ob on), 0)) :
    Calls Tryz.prog 105 #[.pointer (some ⟨p, 0, none⟩), .int .i64 (k : Int), .agg #[.int .i64 ok, .string oa, .string ob, .int .i64 on]] w0 fun e w' => e = .returned (.int .i64 R.2) ∧ MovedE 32 [gh, g2, ev] w0 w' p K R.1 := by
  obtain ⟨g, cap, rfl, hkl⟩ := h0.crow hk
  have hb0 : Below w0.heap.size w0 (w0.alloc (.cells #[.int .i64 ok, .string oa, .string ob, .int .i64 on] 38)) := (Below.refl _ _).alloc (Nat.le_refl _) _
  have HO := ghid (heap_alloc_new w0 (.cells #[.int .i64 ok, .string oa, .string ob, .int .i64 on] 38))
  have h := h0.below hb0
  obtain ⟨w, hw⟩ : ∃ w, w = w0.alloc (.cells #[.int .i64 ok, .string oa, .string ob, .int .i64 on] 38) := ⟨_, rfl⟩
  obtain ⟨bo, hbo⟩ : ∃ b, b = w0.heap.size := ⟨_, rfl⟩
  rw [← hw] at HO h hb0
  rw [← hbo] at HO
  have HB0 := ghid hb0
  have HHB := ghid h0
  have HH := ghid h
  obtain ⟨x, hx, hxd, hxr⟩ := h.cust hk
  obtain ⟨r0, r1, r2, r3, rf, hgl, -⟩ := h.ccells rfl hx
  obtain ⟨cn, hcn⟩ : ∃ z, z = cs.length := ⟨_, rfl⟩
  have HX := ghid hx
  have CS := ghid (fun (u : World) (hu : Below w.heap.size w u) => Start_any x.val c ok on oa ob u u.heap.size ((hxr.below hu (Nat.le_refl _)).mono hu.size) (Nat.le_refl _) hoa hob)
  obtain ⟨se, hse⟩ : ∃ z, z = startE c ok oa ob on := ⟨_, rfl⟩
  obtain ⟨sl, hsl⟩ : ∃ z, z = (if startE c ok oa ob on = 0 then startL c ok oa ob on else .zero) := ⟨_, rfl⟩
  rw [← hse] at hsl
  rw [← hse] at CS hR
  rw [← hsl] at CS
  have HSL := ghid hsl
  have HR := ghid hR
  obtain ⟨xd, xo, xc⟩ := x
  simp only [CustV.val] at r0 r1 r2 r3 CS
  obtain ⟨c0, c1, c2, c3, c4, c5, cf, hpl⟩ := six_cells h.cells
  obtain ⟨o0, o1, o2, o3, of, hol⟩ := state_cells HO.out
  have HOL := ghid hol
  have hp0 := hpl
  have hg0 := hgl
  have hbo0 := hol
  have HKL := ghid (fun g (hg : K g) => h.lt hg)
  have hk3 : (k : Int) < cn := by omega
  rw [← hcn] at c1 HH
  have hkk := hkl
  have HWW := ghid hw
  have HBO := ghid hbo
  clear h h0 hx hxd hxr hse hsl hR hk hb0 hw hbo hcn
  go_enter Tryz.func105, Tryz.ntmps105
  go_upto_region 1 with fail
  rw [← HWW.out, ← HBO.out]
  go_upto_region 2 with fail
  go_cut [7, 8] (fun pv evv wx => ∃ (bx ywc : Nat) (ywo : Option Addr), pv = .pointer (some ⟨bx, 0, none⟩) ∧ evv = .int .i64 se ∧ wx.heap[bx]? = some (.cells #[.int .i64 sl.id, .int .i64 sl.session, .int .i64 sl.next, .slice ywo sl.waits.length ywc] 55 (0, 0)) ∧ FirmK K wx (fun u => CustR u u.heap.size (.agg #[.int .i64 sl.id, .int .i64 sl.session, .int .i64 sl.next, .slice ywo sl.waits.length ywc]) sl) ∧ Below w.heap.size w wx)
  case first =>
    go_region_held3 (fun w' => w'.cell? ⟨p, 1, none⟩ = some (.slice (some ⟨g, 0, none⟩) cn cap) ∧ w'.cell? ⟨g, k * 4, none⟩ = some (.int .i64 xd.id) ∧ w'.cell? ⟨g, k * 4 + 1, none⟩ = some (.int .i64 xd.session) ∧ w'.cell? ⟨g, k * 4 + 2, none⟩ = some (.int .i64 xd.next) ∧ w'.cell? ⟨g, k * 4 + 3, none⟩ = some (.slice xo xd.waits.length xc) ∧ w'.cell? ⟨bo, 0, none⟩ = some (.int .i64 ok) ∧ w'.cell? ⟨bo, 1, none⟩ = some (.string oa) ∧ w'.cell? ⟨bo, 2, none⟩ = some (.string ob) ∧ w'.cell? ⟨bo, 3, none⟩ = some (.int .i64 on)) (go_keep)
      (first
        | (go_at_call 148; have hbu : Below w.heap.size w w.drew := (Below.refl w.heap.size w).drew; have hcs := CS.out w.drew hbu; (with_reducible refine hcs.mono ?_); clear hcs; rintro e w1 ⟨v1, rfl, hc1, hbi⟩; have HB1 := ghid (hbu.trans (hbi.mono hbu.size)); obtain ⟨ywo, ywc, rfl, -⟩ := id hc1; have HC1 := ghid hc1; have HG1 := ghid hbu.size; clear hc1; have hs1 := HB1.out.size; clear c0 c1 c2 c3 c4 c5 cf hpl r0 r1 r2 r3 rf hgl o0 o1 o2 o3 of hol; obtain ⟨c0, c1, c2, c3, c4, c5, cf, hpl⟩ := six_cells (HH.out.below HB1.out).cells; obtain ⟨r0, r1, r2, r3, rf, hgl, -⟩ := (HH.out.below HB1.out).ccells rfl HX.out; obtain ⟨o0, o1, o2, o3, of, hol⟩ := state_cells ((HB1.out.block _ HOL.out).trans HO.out); clear hbi hbu)
        | (go_at_call 148; have hbu : Below w.heap.size w (w.alloc (.cells #[.int .i64 0, .int .i64 0, .int .i64 0, .slice none 0 0] 55)).drew := ((Below.refl w.heap.size w).alloc (Nat.le_refl _) (.cells #[.int .i64 0, .int .i64 0, .int .i64 0, .slice none 0 0] 55)).drew; have hAz : (w.alloc (.cells #[.int .i64 0, .int .i64 0, .int .i64 0, .slice none 0 0] 55)).drew.heap[w.heap.size]? = some (.cells #[.int .i64 0, .int .i64 0, .int .i64 0, .slice none 0 0] 55 (0, 0)) := heap_alloc_new w (.cells #[.int .i64 0, .int .i64 0, .int .i64 0, .slice none 0 0] 55); have hcs := CS.out (w.alloc (.cells #[.int .i64 0, .int .i64 0, .int .i64 0, .slice none 0 0] 55)).drew hbu; (with_reducible refine hcs.mono ?_); clear hcs; rintro e w1 ⟨v1, rfl, hc1, hbi⟩; have HB1 := ghid (hbu.trans (hbi.mono hbu.size)); have HLz1 := ghid (Array.getElem?_eq_some_iff.1 hAz).1; have HAz1 := ghid ((hbi.block _ (Array.getElem?_eq_some_iff.1 hAz).1).trans hAz); obtain ⟨ywo, ywc, rfl, -⟩ := id hc1; have HC1 := ghid hc1; have HG1 := ghid hbu.size; clear hc1; have hs1 := HB1.out.size; clear c0 c1 c2 c3 c4 c5 cf hpl r0 r1 r2 r3 rf hgl o0 o1 o2 o3 of hol; obtain ⟨c0, c1, c2, c3, c4, c5, cf, hpl⟩ := six_cells (HH.out.below HB1.out).cells; obtain ⟨r0, r1, r2, r3, rf, hgl, -⟩ := (HH.out.below HB1.out).ccells rfl HX.out; obtain ⟨o0, o1, o2, o3, of, hol⟩ := state_cells ((HB1.out.block _ HOL.out).trans HO.out); obtain ⟨z0, z1, z2, z3, zf, zl⟩ := state_cells HAz1.out; have hnzp : p ≠ w.heap.size := (by omega); have hmzp : w.heap.size ≠ p := (by omega); have hnzg : g ≠ w.heap.size := (by omega); have hmzg : w.heap.size ≠ g := (by omega); have hnzbo : bo ≠ w.heap.size := (by omega); have hmzbo : w.heap.size ≠ bo := (by omega); clear hbi hbu hAz))
    all_goals
      go_wp2
      go_meet
      first
        | (have hA := heap_alloc_new w1 (.cells #[.int .i64 sl.id, .int .i64 sl.session, .int .i64 sl.next, .slice ywo sl.waits.length ywc] 55)
           have hC := ((HC1.out.keep (base' := w.heap.size) HG1.out (fun _ _ _ => rfl)).firmK (fun j hj => HKL.out j hj)).draw ((Below.refl w1.heap.size w1).alloc (Nat.le_refl _) (.cells #[.int .i64 sl.id, .int .i64 sl.session, .int .i64 sl.next, .slice ywo sl.waits.length ywc] 55))
           have hB := HB1.out.alloc HB1.out.size (.cells #[.int .i64 sl.id, .int .i64 sl.session, .int .i64 sl.next, .slice ywo sl.waits.length ywc] 55)
           with_reducible exact ⟨w1.heap.size, ywc, ywo, rfl, rfl, hA, hC, hB⟩)
        | (have hA := set4c HAz1.out (.int .i64 sl.id) (.int .i64 sl.session) (.int .i64 sl.next) (.slice ywo sl.waits.length ywc)
           have hC := ((HC1.out.put4 (m := w.heap.size) (p := w.heap.size) (by simp) HG1.out (.int .i64 sl.id) (.int .i64 sl.session) (.int .i64 sl.next) (.slice ywo sl.waits.length ywc)).keep (base' := w.heap.size) (Nat.le_refl _) (fun _ _ _ => rfl)).firmK (fun j hj => HKL.out j hj)
           have hB := zset4 HB1.out (Nat.le_refl w.heap.size) (.int .i64 sl.id) (.int .i64 sl.session) (.int .i64 sl.next) (.slice ywo sl.waits.length ywc)
           with_reducible exact ⟨w.heap.size, ywc, ywo, rfl, rfl, hA, hC, hB⟩)
  case rest =>
    obtain ⟨bx, ywc, ywo, rfl, rfl, hbx, hf, hbw⟩ := hcut
    have HBW := ghid hbw
    have HF := ghid hf
    have HM2 := ghid (HH.out.below hbw)
    have HB2 := ghid (HB0.out.trans (hbw.mono HB0.out.size))
    clear c0 c1 c2 c3 c4 c5 cf hpl r0 r1 r2 r3 rf hgl o0 o1 o2 o3 of hol
    obtain ⟨c0, c1, c2, c3, c4, c5, cf, hpl⟩ := six_cells HM2.out.cells
    obtain ⟨x0, x1, x2, x3, xf, xl⟩ := state_cells hbx
    clear hbx hf hbw CS
    by_cases he : se = 0
    · have HRR : Hid (R = (t.setCust k (startL c ok oa ob on), 0)) := HR.out.trans (if_neg (by simpa using he))
      have HSS : Hid (sl = startL c ok oa ob on) := HSL.out.trans (if_pos he)
      subst he
      have CK := ghid (fun m => keepC_ok (HM2.out.below (g_drewN_below _ _ m)) odd_out rfl HX.out (y := ⟨sl, ywo, ywc⟩) (HF.out.draw (g_drewN_below _ _ m)))
      simp only [CustV.val] at CK
      clear HR HSL
      go_wp2_with fail
      go_region_with (first
        | (go_at_call 149; refine (CK.out _).mono ?_; rintro e w3 ⟨rfl, hm3⟩; have HM3 := ghid hm3; clear hm3))
      all_goals
        go_wp2
        go_ret
        exact ⟨sret_int (by rw [HRR.out]), by rw [HRR.out]; have := HM3.out.behind (HB2.out.trans (g_drewN_below _ _ _)); rwa [HSS.out] at this⟩
    · have HRR : Hid (R = (t, se)) := HR.out.trans (if_pos he)
      have CK := ghid (fun u => keepC_bad ⟨g, k * 4, none⟩ ⟨sl, ywo, ywc⟩ se he u)
      simp only [CustV.val] at CK
      clear HR HSL
      go_wp2_with fail
      go_region_with (first
        | (go_at_call 149; refine (CK.out _).mono ?_; rintro e w3 ⟨rfl, hm3⟩; have HM3 := ghid hm3; clear hm3))
      all_goals
        go_wp2
        go_ret
        exact ⟨sret_int (by rw [HRR.out]), by rw [HRR.out]; exact MovedE.same ⟨_, _, _, _, _, _, HHB.out⟩ ((HB2.out.trans (g_drewN_below _ _ 1)).trans (HM3.out.mono HB2.out.size))⟩

end

end Go.Proofs.YtijilhbdbeajjaaGreatDoor

namespace Go.Proofs.YtijilhbdbeajjaaGreatDoor

open Go.RowKit

set_option maxRecDepth 100000 in
set_option maxHeartbeats 3200000 in
theorem install_any (v : Value) (r : RepD) (nt : ByteArray) (w : World) (B : Nat) (hv : RepR w B v r) (hB : B ≤ w.heap.size) (hr : repE r = 0) (hnt : nt.size ≤ 140737488351232) :
    Calls Tryz.prog 198 #[v, .string nt] w fun e w' => ∃ v', e = .returned (.tuple #[v', .int .i64 (instE r nt)]) ∧ Firm w.heap.size w' (fun u => RepR u u.heap.size v' (instL r nt)) ∧ Below w.heap.size w w' := by
  obtain ⟨k1, -, ⟨k3, -⟩, -⟩ := repE_zero hr
  obtain ⟨eo, lo, po, so, ec, ln, lc, pn, pc, sn, sc, rfl, hl, hs, hst⟩ := hv.parts
  have HE : Hid (instE r nt = if snapE nt ≠ 0 then snapE nt else if (snapL nt).index ≤ r.state.index then 12 else if 1073741424 < (snapL nt).index then 8 else 0) := by
    unfold Hid instE
    rw [if_neg (by simpa using hr)]
  have HLZ : Hid (instE r nt ≠ 0 → instL r nt = .zero) := fun h => if_neg h
  have HLO : Hid (instE r nt = 0 → instL r nt = ⟨⟨(snapL nt).index, behindL r.log (snapL nt).index 400⟩, nt, snapL nt⟩) := fun h => if_pos h
  have HBE : Hid (r.log.base ≤ (snapL nt).index → behindE r.log (snapL nt).index 400 = 0) := fun h => by
    unfold behindE
    rw [if_neg (by simpa using k1), if_neg (by omega)]
  obtain ⟨E, hE⟩ : ∃ E, E = instE r nt := ⟨_, rfl⟩
  obtain ⟨L, hL⟩ : ∃ L, L = instL r nt := ⟨_, rfl⟩
  obtain ⟨x, hx⟩ : ∃ x, x = snapL nt := ⟨_, rfl⟩
  obtain ⟨c, hc⟩ : ∃ c, c = snapE nt := ⟨_, rfl⟩
  have HV := ghid hv
  obtain ⟨⟨base, ts⟩, sp, s⟩ := r
  rw [← hE, ← hc, ← hx] at HE
  rw [← hE, ← hL] at HLZ
  rw [← hE, ← hL, ← hx] at HLO
  rw [← hx] at HBE
  rw [← hE, ← hL]
  simp only at k3 HE HLO HBE HV hl hs hst ⊢
  obtain ⟨ix, hix⟩ : ∃ ix, ix = s.index := ⟨_, rfl⟩
  obtain ⟨n, hn⟩ : ∃ n, n = ts.length := ⟨_, rfl⟩
  rw [← hix] at HE HV hst k3 ⊢
  rw [← hn] at hl HV ⊢
  have HZ : Hid (Below w.heap.size w ((w.alloc (.cells #[.int .i64 base, .slice eo n ec, .string sp, .int .i64 ix, .slice lo ln lc, .slice po pn pc, .slice so sn sc] 50)).alloc (.cells #[.int .i64 0, .slice none 0 0, .string ⟨#[]⟩, .int .i64 0, .slice none 0 0, .slice none 0 0, .slice none 0 0] 50))) := (((Below.refl _ _).alloc (Nat.le_refl _) _).alloc (by simp) _)
  have CC := ghid (repCheck_ok _ _ _ B (HV.out.below HZ.out hB) (by have := HZ.out.size; omega) hr)
  have CD := ghid (fun u => decode_new nt u hnt)
  rw [← hx, ← hc] at CD
  have CB := ghid (fun u (hu : Below w.heap.size w u) (hi : -9223372036854775808 ≤ x.index ∧ x.index ≤ 9223372036854775807) => behind_new _ ⟨base, ts⟩ x.index 400 u B (hl.below hu hB) (by have := hu.size; omega) hi ⟨by omega, by omega⟩)
  have CS := ghid (fun u => clone_any nt u (by omega))
  obtain ⟨bl, hbl⟩ : ∃ bl, bl = behindL ⟨base, ts⟩ x.index 400 := ⟨_, rfl⟩
  rw [← hbl] at HLO CB
  have HNT := ghid hnt
  have HC0 : Hid (c = 0 → 0 ≤ x.index) := fun h => by
    rw [hc] at h
    rw [hx]
    unfold snapL
    rw [if_pos h]
    unfold snapE at h
    split at h
    · cases h
    · split at h
      · cases h
      · split at h
        · cases h
        · split at h
          · rename_i h4; exact absurd h h4
          · exact (GoodM.of h).sess.low
  clear hl hs hst hv hr k1 HV hE hL hix hn hx hc hbl hnt hB
  go_enter Tryz.func198, Tryz.ntmps198
  go_wp2_with fail
  refine CC.out.mono ?_
  rintro e w1 ⟨rfl, hb⟩
  obtain ⟨hx, hrr, hbw⟩ := boxes7 (by simpa using hb)
  have HB := ghid hbw
  have HX := ghid hx
  have HR := ghid hrr
  clear hb hx hrr hbw CC
  obtain ⟨c0, c1, c2, c3, c4, c5, c6, cf, hpl⟩ := seven_cells HX.out
  go_wp2_with fail
  refine (CD.out _).mono ?_
  rintro e w2 ⟨v2, rfl, hl2, hb2⟩
  obtain ⟨lo2, ln2, lc2, po2, pn2, pc2, so2, sn2, sc2, rfl⟩ := hl2.now.shape
  have hba : Below w2.heap.size w2 (w2.alloc (.cells #[.int .i64 x.index, .slice lo2 ln2 lc2, .slice po2 pn2 pc2, .slice so2 sn2 sc2] 48)) := (Below.refl _ _).alloc (Nat.le_refl _) _
  have hb1z := HB.out.size
  have hrl1 : w.heap.size + 1 < w1.heap.size := (Array.getElem?_eq_some_iff.1 HR.out).1
  have HB3 := ghid (HB.out.trans ((hb2.trans (hba.mono hb2.size)).mono hb1z))
  have HX3 := ghid (behind (behind HX.out (Below.refl _ _) hb2) (Below.refl _ _) hba)
  have HR3 := ghid (behind (behind HR.out (Below.refl _ _) hb2) (Below.refl _ _) hba)
  have HY3 := ghid (heap_alloc_new w2 (.cells #[.int .i64 x.index, .slice lo2 ln2 lc2, .slice po2 pn2 pc2, .slice so2 sn2 sc2] 48))
  have HL3 := ghid (hl2.below hba)
  obtain ⟨w3, hw3⟩ : ∃ w3, w3 = w2.alloc (.cells #[.int .i64 x.index, .slice lo2 ln2 lc2, .slice po2 pn2 pc2, .slice so2 sn2 sc2] 48) := ⟨_, rfl⟩
  obtain ⟨y, hy⟩ : ∃ y, y = w2.heap.size := ⟨_, rfl⟩
  have HYZ : Hid (w.heap.size + 1 < y) := (by have := hb2.size; omega : w.heap.size + 1 < y)
  rw [← hw3] at HB3 HX3 HR3 HY3 HL3
  rw [← hy] at HY3
  have HW3 := ghid hw3
  have HY := ghid hy
  have hz3 : w.heap.size + 1 < w3.heap.size := (Array.getElem?_eq_some_iff.1 HR3.out).1
  clear hl2 hb2 hba hw3 hy HX HR CD c0 c1 c2 c3 c4 c5 c6 cf hpl hb1z
  obtain ⟨d0, d1, d2, d3, df, dl⟩ := state_cells HY3.out
  obtain ⟨c0, c1, c2, c3, c4, c5, c6, cf, hpl⟩ := seven_cells HX3.out
  obtain ⟨r0, r1, r2, r3, r4, r5, r6, rf, rl⟩ := seven_cells HR3.out
  by_cases hc0 : c = 0
  · have HE1 := ghid (HE.out.trans (if_neg (by simpa using hc0)))
    have hx0 := HC0.out hc0
    subst hc0
    clear HE HC0
    by_cases h1 : x.index ≤ ix
    · have HE2 : Hid (E = 12) := HE1.out.trans (if_pos h1)
      have HZ2 := ghid (HLZ.out (by rw [HE2.out]; decide))
      clear HE1
      go_upto_region 5 with fail
      rw [← HW3.out, ← HY.out]
      clear HW3 HY
      have HF := ghid (zset7 (b := w.heap.size + 1) HB3.out (by omega) (.int .i64 0) (.slice none 0 0) (.string ⟨#[]⟩) (.int .i64 0) (.slice none 0 0) (.slice none 0 0) (.slice none 0 0))
      go_wp2
      refine bodyPost_ret (v := .tuple #[.agg #[.int .i64 0, .slice none 0 0, .string ⟨#[]⟩, .int .i64 0, .slice none 0 0, .slice none 0 0, .slice none 0 0], .int .i64 12]) (by simp [results, Tryz.results198, go_sem, r0, r1, r2, r3, r4, r5, r6]) rfl ?_
      exact ⟨_, by rw [HE2.out], by rw [HZ2.out]; exact Firm.of fun _ => RepR.nil _ _, HF.out⟩
    · have HE2 := ghid (HE1.out.trans (if_neg h1))
      clear HE1
      by_cases h2 : 1073741424 < x.index
      · have HE3 : Hid (E = 8) := HE2.out.trans (if_pos h2)
        have HZ2 := ghid (HLZ.out (by rw [HE3.out]; decide))
        clear HE2
        go_upto_region 5 with fail
        rw [← HW3.out, ← HY.out]
        clear HW3 HY
        have HF := ghid (zset7 (b := w.heap.size + 1) HB3.out (by omega) (.int .i64 0) (.slice none 0 0) (.string ⟨#[]⟩) (.int .i64 0) (.slice none 0 0) (.slice none 0 0) (.slice none 0 0))
        go_wp2
        refine bodyPost_ret (v := .tuple #[.agg #[.int .i64 0, .slice none 0 0, .string ⟨#[]⟩, .int .i64 0, .slice none 0 0, .slice none 0 0, .slice none 0 0], .int .i64 8]) (by simp [results, Tryz.results198, go_sem, r0, r1, r2, r3, r4, r5, r6]) rfl ?_
        exact ⟨_, by rw [HE3.out], by rw [HZ2.out]; exact Firm.of fun _ => RepR.nil _ _, HF.out⟩
      · have HE3 : Hid (E = 0) := HE2.out.trans (if_neg h2)
        have HLF := ghid (HLO.out HE3.out)
        have CB2 := ghid (fun u (hu : Below w.heap.size w u) => CB.out u hu ⟨by omega, by omega⟩)
        have hbe := HBE.out (by omega)
        rw [hbe] at CB2
        clear HE2 HLO HLZ CB HBE hbe
        go_upto_region 5 with fail
        rw [← HW3.out, ← HY.out]
        clear HW3 HY
        go_wp2_with fail
        refine (CB2.out _ HB3.out).mono ?_
        rintro e w4 ⟨v4, rfl, hl4, hb4⟩
        obtain ⟨vo, vc, rfl⟩ := hl4.now.slice
        have HB4 := ghid (HB3.out.trans (hb4.mono HB3.out.size))
        have HX4 := ghid (behind HX3.out (Below.refl _ _) hb4)
        have HR4 := ghid (behind HR3.out (Below.refl _ _) hb4)
        have HY4 := ghid (behind HY3.out (Below.refl _ _) hb4)
        have HL4 := ghid (HL3.out.below hb4)
        have HT4 := ghid hl4
        clear hb4 hl4 HX3 HR3 HY3 HL3 HB3 CB2
        obtain ⟨c0, c1, c2, c3, c4, c5, c6, cf, hpl⟩ := seven_cells HX4.out
        obtain ⟨d0, d1, d2, d3, df, dl⟩ := state_cells HY4.out
        have hyn1 : y ≠ w.heap.size + 1 := by have := HYZ.out; omega
        have hyn2 : w.heap.size + 1 ≠ y := fun e => hyn1 e.symm
        go_wp2
        go_region_held3 (fun w' => w'.cell? ⟨y, 0, none⟩ = some (.int .i64 x.index) ∧ w'.cell? ⟨y, 1, none⟩ = some (.slice lo2 ln2 lc2) ∧ w'.cell? ⟨y, 2, none⟩ = some (.slice po2 pn2 pc2) ∧ w'.cell? ⟨y, 3, none⟩ = some (.slice so2 sn2 sc2)) (go_keep)
          (first
            | (go_at_call 134; refine (CS.out _).mono ?_; rintro e w5 ⟨rfl, hb5⟩; have hbd := (Below.refl w4.heap.size w4).drew.trans hb5; have HB5 := ghid (HB4.out.trans (hbd.mono HB4.out.size)); have HR5 := ghid (behind HR4.out (Below.refl _ _) hbd); have HL5 := ghid (HL4.out.below hbd); have HT5 := ghid (HT4.out.below hbd); obtain ⟨d0, d1, d2, d3, df, dl⟩ := state_cells (behind HY4.out (Below.refl _ _) hbd); clear hb5 hbd; obtain ⟨r0, r1, r2, r3, r4, r5, r6, rf, rl⟩ := seven_cells HR5.out))
        all_goals
          have HF := ghid (zset7 (b := w.heap.size + 1) HB5.out (by omega) (.int .i64 x.index) (.slice vo bl.length vc) (.string nt) (.int .i64 x.index) (.slice lo2 ln2 lc2) (.slice po2 pn2 pc2) (.slice so2 sn2 sc2))
          have HA := ghid ((HL5.out.set7 (p := w.heap.size + 1) hrl1 (.int .i64 x.index) (.slice vo bl.length vc) (.string nt) (.int .i64 x.index) (.slice lo2 ln2 lc2) (.slice po2 pn2 pc2) (.slice so2 sn2 sc2)).mono (by omega : w.heap.size ≤ w1.heap.size)).firm
          have HC := ghid ((HT5.out.set7 (p := w.heap.size + 1) hz3 (.int .i64 x.index) (.slice vo bl.length vc) (.string nt) (.int .i64 x.index) (.slice lo2 ln2 lc2) (.slice po2 pn2 pc2) (.slice so2 sn2 sc2)).mono (by omega : w.heap.size ≤ w3.heap.size)).firm
          go_wp2
          refine bodyPost_ret (v := .tuple #[.agg #[.int .i64 x.index, .slice vo bl.length vc, .string nt, .int .i64 x.index, .slice lo2 ln2 lc2, .slice po2 pn2 pc2, .slice so2 sn2 sc2], .int .i64 0]) (by simp [results, Tryz.results198, go_sem, r0, r1, r2, r3, r4, r5, r6]) rfl ?_
          exact ⟨_, by rw [HE3.out], by rw [HLF.out]; exact RepR.firm HC.out HNT.out HA.out, HF.out⟩
  · have HE2 : Hid (E = c) := HE.out.trans (if_pos hc0)
    have hcb : (c != 0) = true := by simpa using hc0
    have HZ2 := ghid (HLZ.out (by rw [HE2.out]; exact hc0))
    clear HE hc0
    go_upto_region 5 with fail
    rw [← HW3.out, ← HY.out]
    clear HW3 HY
    have HF := ghid (zset7 (b := w.heap.size + 1) HB3.out (by omega) (.int .i64 0) (.slice none 0 0) (.string ⟨#[]⟩) (.int .i64 0) (.slice none 0 0) (.slice none 0 0) (.slice none 0 0))
    go_wp2
    refine bodyPost_ret (v := .tuple #[.agg #[.int .i64 0, .slice none 0 0, .string ⟨#[]⟩, .int .i64 0, .slice none 0 0, .slice none 0 0, .slice none 0 0], .int .i64 c]) (by simp [results, Tryz.results198, go_sem, r0, r1, r2, r3, r4, r5, r6]) rfl ?_
    exact ⟨_, by rw [HE2.out], by rw [HZ2.out]; exact Firm.of fun _ => RepR.nil _ _, HF.out⟩

end Go.Proofs.YtijilhbdbeajjaaGreatDoor

namespace Go.Proofs.YtijilhbdbeajjaaGreatDoor

open Go.RowKit

theorem Firm.mono {n m : Nat} {w : World} {R : World → Prop} (h : Firm n w R) (hm : m ≤ n) : Firm m w R := fun u hu => h u (hu.sub fun _ _ e => ⟨by omega, e.2⟩)

/-- What a replica is told of the leader: what is refused, what comes of it. -/
def catchE (r l : RepD) (f m : Int) : Int := if f < l.log.base then instE r l.snap else if behindE l.log f m ≠ 0 then behindE l.log f m else hearE r f (behindL l.log f m)

def catchL (r l : RepD) (f m : Int) : RepD := if f < l.log.base then instL r l.snap else if behindE l.log f m ≠ 0 then .zero else hearL r f (behindL l.log f m)

theorem ship_is (t : TownD) (k : Nat) (m : Int) : t.ship k m = if k = t.leader ∨ m < 0 then (t, 2) else if catchE (t.rep k) t.lead (t.right (t.rep k)) m ≠ 0 then (t, catchE (t.rep k) t.lead (t.right (t.rep k)) m) else ((t.setRep k (catchL (t.rep k) t.lead (t.right (t.rep k)) m)).commit, 0) := by
  unfold TownD.ship catchE catchL
  by_cases h1 : k = t.leader ∨ m < 0
  · rw [if_pos h1, if_pos h1]
  · rw [if_neg h1, if_neg h1]
    by_cases h2 : (t.right (t.rep k) : Int) < t.lead.log.base
    · rw [if_pos h2, if_pos h2, if_pos h2]
    · rw [if_neg h2, if_neg h2, if_neg h2]
      by_cases h3 : behindE t.lead.log (t.right (t.rep k)) m = 0
      · simp [h3]
      · simp [h3]

set_option maxRecDepth 100000 in
set_option maxHeartbeats 3200000 in
theorem catchUp_any (x y : RepV) (f m : Int) (w : World) (B : Nat) (hx : RepR w B x.val x.d) (hy : RepR w B y.val y.d) (hB : B ≤ w.heap.size) (hrx : repE x.d = 0) (hry : repE y.d = 0) (hf : -9223372036854775808 ≤ f ∧ f ≤ 9223372036854775807) (hm : -9223372036854775808 ≤ m ∧ m ≤ 9223372036854775807) :
    Calls Tryz.prog 150 #[x.val, y.val, .int .i64 f, .int .i64 m] w fun e w' => ∃ v', e = .returned (.tuple #[v', .int .i64 (catchE x.d y.d f m)]) ∧ Firm w.heap.size w' (fun u => RepR u u.heap.size v' (catchL x.d y.d f m)) ∧ Below w.heap.size w w' := by
  obtain ⟨xd, xeo, xlo, xpo, xso, xec, xln, xlc, xpn, xpc, xsn, xsc⟩ := x
  obtain ⟨yd, yeo, ylo, ypo, yso, yec, yln, ylc, ypn, ypc, ysn, ysc⟩ := y
  simp only [RepV.val] at hx hy hrx hry ⊢
  obtain ⟨_, _, _, _, _, _, _, _, _, _, _, he, hlog, hsn, -⟩ := hy.parts
  simp only [Value.agg.injEq, Array.mk.injEq, List.cons.injEq, Value.slice.injEq, true_and, and_true] at he
  obtain ⟨⟨rfl, rfl⟩, -⟩ := he
  have HZ : Hid (Below w.heap.size w (((w.alloc (.cells #[.int .i64 xd.log.base, .slice xeo xd.log.ents.length xec, .string xd.snap, .int .i64 xd.state.index, .slice xlo xln xlc, .slice xpo xpn xpc, .slice xso xsn xsc] 50)).alloc (.cells #[.int .i64 yd.log.base, .slice yeo yd.log.ents.length yec, .string yd.snap, .int .i64 yd.state.index, .slice ylo yln ylc, .slice ypo ypn ypc, .slice yso ysn ysc] 50)).alloc (.cells #[.int .i64 0, .slice none 0 0, .string ⟨#[]⟩, .int .i64 0, .slice none 0 0, .slice none 0 0, .slice none 0 0] 50))) := (((Below.refl _ _).alloc (Nat.le_refl _) _).alloc (by simp) _).alloc (by simp; omega) _
  obtain ⟨hx0, hy0, hr0⟩ := three_newC (w := w) (A := (.cells #[.int .i64 xd.log.base, .slice xeo xd.log.ents.length xec, .string xd.snap, .int .i64 xd.state.index, .slice xlo xln xlc, .slice xpo xpn xpc, .slice xso xsn xsc] 50)) (R := (.cells #[.int .i64 yd.log.base, .slice yeo yd.log.ents.length yec, .string yd.snap, .int .i64 yd.state.index, .slice ylo yln ylc, .slice ypo ypn ypc, .slice yso ysn ysc] 50)) (S := (.cells #[.int .i64 0, .slice none 0 0, .string ⟨#[]⟩, .int .i64 0, .slice none 0 0, .slice none 0 0, .slice none 0 0] 50)) (Below.refl _ _)
  have HX0 := ghid hx0
  have HY0 := ghid hy0
  have HR0 := ghid hr0
  have CI := ghid (fun (u : World) (hu : Below w.heap.size w u) => install_any _ xd yd.snap u B (hx.below hu hB) (by have := hu.size; omega) hrx hsn)
  have CB := ghid (fun (u : World) (hu : Below w.heap.size w u) => behind_new _ yd.log f m u B (hlog.below hu hB) (by have := hu.size; omega) hf hm)
  have CH := ghid (fun (u : World) (hu : Below w.heap.size w u) (mv : Value) (ht : TextsR u u.heap.size mv (behindL yd.log f m)) => repHear_any _ xd f mv _ u u.heap.size ((hx.below hu hB).mono (by have := hu.size; omega)) ht (Nat.le_refl _) hf hrx)
  by_cases h1 : f < yd.log.base
  · have HE : Hid (catchE xd yd f m = instE xd yd.snap) := if_pos h1
    have HL : Hid (catchL xd yd f m = instL xd yd.snap) := if_pos h1
    obtain ⟨zd, hzd⟩ : ∃ z, z = instL xd yd.snap := ⟨_, rfl⟩
    obtain ⟨ie, hie⟩ : ∃ z, z = instE xd yd.snap := ⟨_, rfl⟩
    rw [← hzd] at HL
    rw [← hie] at HE
    rw [← hzd, ← hie] at CI
    clear hx hy hx0 hy0 hr0 hlog hsn hrx hry CB CH hzd hie
    go_enter Tryz.func150, Tryz.ntmps150
    go_wp2_with fail
    refine (CI.out _ HZ.out).mono ?_
    rintro e w1 ⟨v1, rfl, hf, hb⟩
    have HBP := ghid HZ.out
    have hrl : w.heap.size + 1 + 1 < (((w.alloc (.cells #[.int .i64 xd.log.base, .slice xeo xd.log.ents.length xec, .string xd.snap, .int .i64 xd.state.index, .slice xlo xln xlc, .slice xpo xpn xpc, .slice xso xsn xsc] 50)).alloc (.cells #[.int .i64 yd.log.base, .slice yeo yd.log.ents.length yec, .string yd.snap, .int .i64 yd.state.index, .slice ylo yln ylc, .slice ypo ypn ypc, .slice yso ysn ysc] 50)).alloc (.cells #[.int .i64 0, .slice none 0 0, .string ⟨#[]⟩, .int .i64 0, .slice none 0 0, .slice none 0 0, .slice none 0 0] 50)).heap.size := (Array.getElem?_eq_some_iff.1 HR0.out).1
    obtain ⟨zeo, zlo, zpo, zso, zec, zln, zlc, zpn, zpc, zsn, zsc, rfl, -⟩ := id hf.now
    have HR1 := ghid (behind HR0.out (Below.refl _ _) hb)
    obtain ⟨q0, q1, q2, q3, q4, q5, q6, qf, ql⟩ := seven_cells HR1.out
    have HB1 := ghid (HBP.out.trans (hb.mono HBP.out.size))
    have HF1 := ghid (((hf.touch (touch7 (w.heap.size + 1 + 1) (.int .i64 zd.log.base) (.slice zeo zd.log.ents.length zec) (.string zd.snap) (.int .i64 zd.state.index) (.slice zlo zln zlc) (.slice zpo zpn zpc) (.slice zso zsn zsc)) fun _ _ e => e ▸ ⟨hrl, rep_alien HR1.out⟩).mono HBP.out.size))
    clear hb hf
    go_wp2
    refine bodyPost_ret (v := .tuple #[.agg #[.int .i64 zd.log.base, .slice zeo zd.log.ents.length zec, .string zd.snap, .int .i64 zd.state.index, .slice zlo zln zlc, .slice zpo zpn zpc, .slice zso zsn zsc], .int .i64 ie]) (by simp [results, Tryz.results150, go_sem, q0, q1, q2, q3, q4, q5, q6]) rfl ?_
    exact ⟨_, by rw [HE.out], by rw [HL.out]; exact HF1.out, zset7 HB1.out (by omega) (.int .i64 zd.log.base) (.slice zeo zd.log.ents.length zec) (.string zd.snap) (.int .i64 zd.state.index) (.slice zlo zln zlc) (.slice zpo zpn zpc) (.slice zso zsn zsc)⟩
  · by_cases h2 : behindE yd.log f m = 0
    · have HE : Hid (catchE xd yd f m = hearE xd f (behindL yd.log f m)) := (if_neg h1).trans (if_neg (by simpa using h2))
      have HL : Hid (catchL xd yd f m = hearL xd f (behindL yd.log f m)) := (if_neg h1).trans (if_neg (by simpa using h2))
      obtain ⟨bl, hbl⟩ : ∃ z, z = behindL yd.log f m := ⟨_, rfl⟩
      rw [← hbl] at HE HL CH CB
      obtain ⟨zd, hzd⟩ : ∃ z, z = hearL xd f bl := ⟨_, rfl⟩
      obtain ⟨ie, hie⟩ : ∃ z, z = hearE xd f bl := ⟨_, rfl⟩
      rw [← hzd] at HL
      rw [← hie] at HE
      rw [← hzd, ← hie] at CH
      rw [h2] at CB
      clear hx hy hx0 hy0 hr0 hlog hsn hrx hry CI hzd hie h2 hbl
      go_enter Tryz.func150, Tryz.ntmps150
      go_wp2_with fail
      refine (CB.out _ HZ.out).mono ?_
      rintro e w0 ⟨v0, rfl, hn0, hb0⟩
      obtain ⟨mo, mc, rfl⟩ := hn0.now.slice
      have HT0 := ghid hn0.now
      have HBP := ghid (HZ.out.trans (hb0.mono HZ.out.size))
      have HXP := ghid (behind HX0.out (Below.refl _ _) hb0)
      have HRP := ghid (behind HR0.out (Below.refl _ _) hb0)
      obtain ⟨p0, p1, p2, p3, p4, p5, p6, pf, pl⟩ := seven_cells HXP.out
      have hrl : w.heap.size + 1 + 1 < w0.heap.size := (Array.getElem?_eq_some_iff.1 HRP.out).1
      clear hn0 hb0 CB
      go_wp2_with fail
      refine (CH.out _ HBP.out _ HT0.out).mono ?_
      rintro e w1 ⟨v1, rfl, hf, hb⟩
      obtain ⟨zeo, zlo, zpo, zso, zec, zln, zlc, zpn, zpc, zsn, zsc, rfl, -⟩ := id hf.now
      have HR1 := ghid (behind HRP.out (Below.refl _ _) hb)
      obtain ⟨q0, q1, q2, q3, q4, q5, q6, qf, ql⟩ := seven_cells HR1.out
      have HB1 := ghid (HBP.out.trans (hb.mono HBP.out.size))
      have HF1 := ghid (((hf.touch (touch7 (w.heap.size + 1 + 1) (.int .i64 zd.log.base) (.slice zeo zd.log.ents.length zec) (.string zd.snap) (.int .i64 zd.state.index) (.slice zlo zln zlc) (.slice zpo zpn zpc) (.slice zso zsn zsc)) fun _ _ e => e ▸ ⟨hrl, rep_alien HR1.out⟩).mono HBP.out.size))
      clear hb hf
      go_wp2
      refine bodyPost_ret (v := .tuple #[.agg #[.int .i64 zd.log.base, .slice zeo zd.log.ents.length zec, .string zd.snap, .int .i64 zd.state.index, .slice zlo zln zlc, .slice zpo zpn zpc, .slice zso zsn zsc], .int .i64 ie]) (by simp [results, Tryz.results150, go_sem, q0, q1, q2, q3, q4, q5, q6]) rfl ?_
      exact ⟨_, by rw [HE.out], by rw [HL.out]; exact HF1.out, zset7 HB1.out (by omega) (.int .i64 zd.log.base) (.slice zeo zd.log.ents.length zec) (.string zd.snap) (.int .i64 zd.state.index) (.slice zlo zln zlc) (.slice zpo zpn zpc) (.slice zso zsn zsc)⟩
    · have HE : Hid (catchE xd yd f m = behindE yd.log f m) := (if_neg h1).trans (if_pos h2)
      have HL : Hid (catchL xd yd f m = .zero) := (if_neg h1).trans (if_pos h2)
      obtain ⟨ie, hie⟩ : ∃ z, z = behindE yd.log f m := ⟨_, rfl⟩
      rw [← hie] at HE CB h2
      have hcb : (ie != 0) = true := by simpa using h2
      clear hx hy hx0 hy0 hr0 hlog hsn hrx hry CI CH hie
      go_enter Tryz.func150, Tryz.ntmps150
      go_wp2_with fail
      refine (CB.out _ HZ.out).mono ?_
      rintro e w0 ⟨v0, rfl, hn0, hb0⟩
      obtain ⟨mo, mc, rfl⟩ := hn0.now.slice
      have HBP := ghid (HZ.out.trans (hb0.mono HZ.out.size))
      have HRP := ghid (behind HR0.out (Below.refl _ _) hb0)
      obtain ⟨q0, q1, q2, q3, q4, q5, q6, qf, ql⟩ := seven_cells HRP.out
      clear hn0 hb0 CB
      go_wp2
      refine bodyPost_ret (v := .tuple #[.agg #[.int .i64 0, .slice none 0 0, .string ⟨#[]⟩, .int .i64 0, .slice none 0 0, .slice none 0 0, .slice none 0 0], .int .i64 ie]) (by simp [results, Tryz.results150, go_sem, q0, q1, q2, q3, q4, q5, q6]) rfl ?_
      exact ⟨_, by rw [HE.out], by rw [HL.out]; exact Firm.of fun _ => RepR.nil _ _, zset7 HBP.out (by omega) (.int .i64 0) (.slice none 0 0) (.string ⟨#[]⟩) (.int .i64 0) (.slice none 0 0) (.slice none 0 0) (.slice none 0 0)⟩

end Go.Proofs.YtijilhbdbeajjaaGreatDoor

namespace Go.Proofs.YtijilhbdbeajjaaGreatDoor

open Go.RowKit

section

variable {gh g2 ev : Value} {w : World} {p : Nat} {K : Nat → Prop} {rv cv mv tv : Value} {xs : List RepV} {cs : List CustV} {t : TownD} {n : Nat}

/-- A replica put anew: what was turned. -/
theorem TownM.touchR {ty : TypeId} {tl : List Value} (h : TownM ty tl w p K rv cv mv tv xs cs t) {g cap k : Nat} (hv : rv = .slice (some ⟨g, 0, none⟩) 3 cap) (y : RepV) : TouchG w (putN w g (k * 7) (repCells y)) (fun b => K b ∧ ¬ ∃ v ∈ tl, v.ownBlock = some b) := by
  obtain ⟨c, hg⟩ := grow_tag h.reps (g := g) (by rw [hv]; rfl)
  refine (putN_touch g (repCells y) (k * 7) w).sub fun b _ e => ?_
  subst e
  exact ⟨(h.kdef b).2 (.inr (.inl (by rw [hv]; rfl))), h.notTail hg (by decide) (by decide)⟩

/-- What a replica is told leaves it one that may be. -/
theorem catch_ok (h : TownG t n) (hn : n < 400) {k : Nat} (hk : k < 3) {m : Int} (hm : ¬ (k = t.leader ∨ m < 0)) : TownR (t.setRep k (catchL (t.rep k) t.lead (t.right (t.rep k)) m)) (n + 1) := by
  have hne : k ≠ t.leader := fun e => hm (.inl e)
  have hm0 : 0 ≤ m := by
    have : ¬ m < 0 := fun e => hm (.inr e)
    omega
  have hR := h.town.mono (Nat.le_succ n)
  have hfew := h.town.few
  obtain ⟨bl, il, hl⟩ := h.town.reps t.leader h.town.lead
  have hl0 : RepT t.comm n t.lead bl il := hl
  obtain ⟨b, i, hr⟩ := h.town.reps k hk
  have hr1 := hr.grow [] (Nat.le_succ n)
  rw [List.append_nil] at hr1
  have hge := hr.right_ge
  have hle := hr.right_le
  have hll := right_lead h.town hl0 hr
  have hlb := hl0.low
  have hld := hl0.done
  have hlt := hl0.top
  obtain ⟨g1, -, -, -⟩ := repE_zero (hl0.good h.town.comm (by omega) (by omega))
  unfold catchL
  by_cases hb : (t.right (t.rep k) : Int) < t.lead.log.base
  · rw [if_pos hb]
    rw [hl0.base] at hb
    obtain ⟨e1, e2, -⟩ := hr1.install h.town.comm (by omega) (by omega) (B := bl) (by omega) (by omega) (by omega)
    rw [hl0.snap]
    exact hR.setRep hk e2 fun e => absurd e hne
  · rw [if_neg hb]
    rw [hl0.base] at hb
    have hbe : behindE t.lead.log (t.right (t.rep k)) m = 0 := by
      unfold behindE
      rw [g1, if_neg (by simp), hl0.base, if_neg (by omega)]
    have hbl : behindL t.lead.log (t.right (t.rep k)) m = (t.lead.log.ents.drop (t.right (t.rep k) - bl)).take m.toNat := by
      unfold behindL
      rw [if_pos hbe, hl0.base]
      congr 2
      omega
    obtain ⟨e1, e2, -⟩ := hr1.hear h.town.comm (by omega) (by omega) (f := t.right (t.rep k)) (l := (t.lead.log.ents.drop (t.right (t.rep k) - bl)).take m.toNat) hge hle (firstE_sub hl0.first ((List.take_sublist _ _).trans (List.drop_sublist _ _))) (by rw [List.length_take, List.length_drop]; omega)
    rw [if_neg (by simpa using hbe), hbl]
    exact hR.setRep hk e2 fun e => absurd e hne

set_option maxRecDepth 100000 in
set_option maxHeartbeats 6400000 in
theorem ship_town (h : TownM 32 [gh, g2, ev] w p K rv cv mv tv xs cs t) (hT : TownG t n) (hn : n < 400) {k : Nat} (hk : k < 3) (m : Int) (hm : -9223372036854775808 ≤ m ∧ m ≤ 9223372036854775807) (R : TownD × Int) (hR : R = t.ship k m) :
    Calls Tryz.prog 107 #[.pointer (some ⟨p, 0, none⟩), .int .i64 (k : Int), .int .i64 m] w fun e w' => e = .returned (.int .i64 R.2) ∧ MovedE 32 [gh, g2, ev] w w' p K R.1 := by
  have hG := hT.town
  have hn4 : n ≤ 400 := by omega
  obtain ⟨g, cap, rfl, hcap, -⟩ := h.rrow
  have hlead := hG.lead
  have HH := ghid h
  obtain ⟨c0, c1, c2, c3, c4, c5, cf, hpl⟩ := six_cells h.cells
  rw [ship_is] at hR
  by_cases hbad : k = t.leader ∨ m < 0
  · have HR := ghid (hR.trans (if_pos hbad))
    by_cases hkl : k = t.leader
    · subst hkl
      clear hR h hbad
      go_enter Tryz.func107, Tryz.ntmps107
      go_wp2
      go_ret
      exact ⟨sret_int (by rw [HR.out]), by rw [HR.out]; exact MovedE.same ⟨_, _, _, _, _, _, HH.out⟩ (Below.refl _ _)⟩
    · have hm0 : m < 0 := hbad.resolve_left hkl
      have hkb : ¬ (k : Int) = t.leader := by omega
      clear hR h hbad hkl
      go_enter Tryz.func107, Tryz.ntmps107
      go_wp2
      go_ret
      exact ⟨sret_int (by rw [HR.out]), by rw [HR.out]; exact MovedE.same ⟨_, _, _, _, _, _, HH.out⟩ (Below.refl _ _)⟩
  · rw [if_neg hbad] at hR
    have HOK := ghid (catch_ok hT hn hk hbad)
    have hkb : ¬ (k : Int) = t.leader := fun e => hbad (.inl (by omega))
    have hm0 : ¬ m < 0 := fun e => hbad (.inr e)
    obtain ⟨x, hx, hxd, hxr⟩ := h.rep hk
    obtain ⟨y, hy, hyd, hyr⟩ := h.rep hlead
    obtain ⟨r0, r1, r2, r3, r4, r5, r6, rf, hgl⟩ := h.rcells rfl hx
    obtain ⟨s0, s1, s2, s3, s4, s5, s6, -, -⟩ := h.rcells rfl hy
    have HX := ghid hx
    have HY := ghid hy
    have hrb := right_bound hG hk
    have CD := ghid (fun (u : World) (hu : Below w.heap.size w u) => due_any (h.below hu) hG hn4)
    have CR := ghid (fun (dv : Value) (u : World) (hu : Below w.heap.size w u) (hd : TextsR u u.heap.size dv t.due) => right_any hG hn4 hk x hxd dv u u.heap.size ((hxr.below hu (Nat.le_refl _)).mono hu.size) hd (Nat.le_refl _))
    have hgx := lead_good hG hn4 hk
    have hgy := lead_good hG hn4 hlead
    have CC := ghid (fun (u : World) (hu : Below w.heap.size w u) => catchUp_any x y (t.right (t.rep k)) m u w.heap.size (by rw [hxd]; exact hxr.below hu (Nat.le_refl _)) (by rw [hyd]; exact hyr.below hu (Nat.le_refl _)) hu.size (by rw [hxd]; exact hgx) (by rw [hyd]; exact hgy) (by omega) hm)
    have hlr : t.rep t.leader = t.lead := rfl
    rw [hlr] at hyd
    rw [hxd, hyd] at CC
    obtain ⟨zd, hzd⟩ : ∃ z, z = catchL (t.rep k) t.lead (t.right (t.rep k)) m := ⟨_, rfl⟩
    obtain ⟨ze, hze⟩ : ∃ z, z = catchE (t.rep k) t.lead (t.right (t.rep k)) m := ⟨_, rfl⟩
    rw [← hzd] at HOK
    rw [← hzd, ← hze] at CC hR
    obtain ⟨rk, hrk⟩ : ∃ z, z = t.right (t.rep k) := ⟨_, rfl⟩
    rw [← hrk] at CR CC
    have HR := ghid hR
    obtain ⟨ld, hld⟩ : ∃ z, z = t.leader := ⟨_, rfl⟩
    rw [← hld] at s0 s1 s2 s3 s4 s5 s6 c4 HY hkb hlead
    have HLD := ghid hld
    obtain ⟨xd, xeo, xlo, xpo, xso, xec, xln, xlc, xpn, xpc, xsn, xsc⟩ := x
    obtain ⟨yd, yeo, ylo, ypo, yso, yec, yln, ylc, ypn, ypc, ysn, ysc⟩ := y
    simp only [RepV.val] at r0 r1 r2 r3 r4 r5 r6 s0 s1 s2 s3 s4 s5 s6 CR CC
    have HKL := ghid (fun g (hg : K g) => h.lt hg)
    have hp0 := hpl
    have hg0 := hgl
    have hk3 : (k : Int) < 3 := by omega
    have hl3 : (ld : Int) < 3 := by omega
    have hl4 : (0 : Int) ≤ ld := by omega
    have hkk := hk
    have hne : k ≠ ld := by omega
    clear h hx hxd hxr hy hyd hyr hgx hgy hzd hze hrk hR hld hlr hbad hrb
    go_enter Tryz.func107, Tryz.ntmps107
    go_upto_region 4 with fail
    go_upto_region 5 with fail
    go_cut [8, 9] (fun pv evv wx => ∃ (bx zec zln zlc zpn zpc zsn zsc : Nat) (zeo zlo zpo zso : Option Addr), pv = .pointer (some ⟨bx, 0, none⟩) ∧ evv = .int .i64 ze ∧ wx.heap[bx]? = some (.cells #[.int .i64 zd.log.base, .slice zeo zd.log.ents.length zec, .string zd.snap, .int .i64 zd.state.index, .slice zlo zln zlc, .slice zpo zpn zpc, .slice zso zsn zsc] 50 (0, 0)) ∧ FirmK K wx (fun u => RepR u u.heap.size (.agg #[.int .i64 zd.log.base, .slice zeo zd.log.ents.length zec, .string zd.snap, .int .i64 zd.state.index, .slice zlo zln zlc, .slice zpo zpn zpc, .slice zso zsn zsc]) zd) ∧ w.heap.size ≤ bx ∧ Below w.heap.size w wx)
    case first =>
      go_region_held3 (fun w' => w'.cell? ⟨p, 0, none⟩ = some (.slice (some ⟨g, 0, none⟩) 3 cap) ∧ w'.cell? ⟨p, 4, none⟩ = some (.int .i64 (ld : Int)) ∧ w'.cell? ⟨g, k * 7, none⟩ = some (.int .i64 xd.log.base) ∧ w'.cell? ⟨g, k * 7 + 1, none⟩ = some (.slice xeo xd.log.ents.length xec) ∧ w'.cell? ⟨g, k * 7 + 2, none⟩ = some (.string xd.snap) ∧ w'.cell? ⟨g, k * 7 + 3, none⟩ = some (.int .i64 xd.state.index) ∧ w'.cell? ⟨g, k * 7 + 4, none⟩ = some (.slice xlo xln xlc) ∧ w'.cell? ⟨g, k * 7 + 5, none⟩ = some (.slice xpo xpn xpc) ∧ w'.cell? ⟨g, k * 7 + 6, none⟩ = some (.slice xso xsn xsc) ∧ w'.cell? ⟨g, ld * 7, none⟩ = some (.int .i64 yd.log.base) ∧ w'.cell? ⟨g, ld * 7 + 1, none⟩ = some (.slice yeo yd.log.ents.length yec) ∧ w'.cell? ⟨g, ld * 7 + 2, none⟩ = some (.string yd.snap) ∧ w'.cell? ⟨g, ld * 7 + 3, none⟩ = some (.int .i64 yd.state.index) ∧ w'.cell? ⟨g, ld * 7 + 4, none⟩ = some (.slice ylo yln ylc) ∧ w'.cell? ⟨g, ld * 7 + 5, none⟩ = some (.slice ypo ypn ypc) ∧ w'.cell? ⟨g, ld * 7 + 6, none⟩ = some (.slice yso ysn ysc)) (go_keep)
        (first
          | (go_at_call 152; have hbu : Below w.heap.size w w.drew := (Below.refl w.heap.size w).drew; have hcs := CD.out w.drew hbu; (with_reducible refine hcs.mono ?_); clear hcs; rintro e w1 ⟨v1, rfl, hd1, hbi⟩; have HB1 := ghid (hbu.trans (hbi.mono hbu.size)); obtain ⟨duo, duc, rfl⟩ := hd1.slice; have HD := ghid hd1; clear hd1; have hs1 := HB1.out.size; clear c0 c1 c2 c3 c4 c5 cf hpl r0 r1 r2 r3 r4 r5 r6 rf hgl s0 s1 s2 s3 s4 s5 s6; obtain ⟨c0, c1, c2, c3, c4, c5, cf, hpl⟩ := six_cells (HH.out.below HB1.out).cells; rw [← HLD.out] at c4; obtain ⟨r0, r1, r2, r3, r4, r5, r6, rf, hgl⟩ := (HH.out.below HB1.out).rcells rfl HX.out; obtain ⟨s0, s1, s2, s3, s4, s5, s6, -, -⟩ := (HH.out.below HB1.out).rcells rfl HY.out; clear hbi hbu)
          | (go_at_call 152; have hbu : Below w.heap.size w (w.alloc (.cells #[.int .i64 0, .slice none 0 0, .string ⟨#[]⟩, .int .i64 0, .slice none 0 0, .slice none 0 0, .slice none 0 0] 50)).drew := ((Below.refl w.heap.size w).alloc (Nat.le_refl _) (.cells #[.int .i64 0, .slice none 0 0, .string ⟨#[]⟩, .int .i64 0, .slice none 0 0, .slice none 0 0, .slice none 0 0] 50)).drew; have hAz : (w.alloc (.cells #[.int .i64 0, .slice none 0 0, .string ⟨#[]⟩, .int .i64 0, .slice none 0 0, .slice none 0 0, .slice none 0 0] 50)).drew.heap[w.heap.size]? = some (.cells #[.int .i64 0, .slice none 0 0, .string ⟨#[]⟩, .int .i64 0, .slice none 0 0, .slice none 0 0, .slice none 0 0] 50 (0, 0)) := heap_alloc_new w (.cells #[.int .i64 0, .slice none 0 0, .string ⟨#[]⟩, .int .i64 0, .slice none 0 0, .slice none 0 0, .slice none 0 0] 50); have hcs := CD.out (w.alloc (.cells #[.int .i64 0, .slice none 0 0, .string ⟨#[]⟩, .int .i64 0, .slice none 0 0, .slice none 0 0, .slice none 0 0] 50)).drew hbu; (with_reducible refine hcs.mono ?_); clear hcs; rintro e w1 ⟨v1, rfl, hd1, hbi⟩; have HB1 := ghid (hbu.trans (hbi.mono hbu.size)); have HLz1 := ghid (Array.getElem?_eq_some_iff.1 hAz).1; have HAz1 := ghid ((hbi.block _ (Array.getElem?_eq_some_iff.1 hAz).1).trans hAz); obtain ⟨duo, duc, rfl⟩ := hd1.slice; have HD := ghid hd1; clear hd1; have hs1 := HB1.out.size; clear c0 c1 c2 c3 c4 c5 cf hpl r0 r1 r2 r3 r4 r5 r6 rf hgl s0 s1 s2 s3 s4 s5 s6; obtain ⟨c0, c1, c2, c3, c4, c5, cf, hpl⟩ := six_cells (HH.out.below HB1.out).cells; rw [← HLD.out] at c4; obtain ⟨r0, r1, r2, r3, r4, r5, r6, rf, hgl⟩ := (HH.out.below HB1.out).rcells rfl HX.out; obtain ⟨s0, s1, s2, s3, s4, s5, s6, -, -⟩ := (HH.out.below HB1.out).rcells rfl HY.out; obtain ⟨z0, z1, z2, z3, z4, z5, z6, zf, zl⟩ := seven_cells HAz1.out; have hnzp : p ≠ w.heap.size := (by omega); have hmzp : w.heap.size ≠ p := (by omega); have hnzg : g ≠ w.heap.size := (by omega); have hmzg : w.heap.size ≠ g := (by omega); clear hbi hbu hAz)
          | (go_at_call 151; have hbu : Below w.heap.size w w1 := HB1.out; have hAz : w1.heap[w.heap.size]? = some (.cells #[.int .i64 0, .slice none 0 0, .string ⟨#[]⟩, .int .i64 0, .slice none 0 0, .slice none 0 0, .slice none 0 0] 50 (0, 0)) := HAz1.out; have hbu1 : Below w1.heap.size w1 w1 := Below.refl w1.heap.size w1; have hcs := CR.out _ w1 hbu (HD.out.below (hbu1) (Nat.le_refl _) |>.mono hbu1.size); (with_reducible refine hcs.mono ?_); clear hcs; rintro e w2 ⟨rfl, hbi⟩; have HB2 := ghid (hbu.trans (hbi.mono hbu.size)); have HLz2 := ghid (Array.getElem?_eq_some_iff.1 hAz).1; have HAz2 := ghid ((hbi.block _ (Array.getElem?_eq_some_iff.1 hAz).1).trans hAz); have hs2 := HB2.out.size; clear c0 c1 c2 c3 c4 c5 cf hpl r0 r1 r2 r3 r4 r5 r6 rf hgl s0 s1 s2 s3 s4 s5 s6; obtain ⟨c0, c1, c2, c3, c4, c5, cf, hpl⟩ := six_cells (HH.out.below HB2.out).cells; rw [← HLD.out] at c4; obtain ⟨r0, r1, r2, r3, r4, r5, r6, rf, hgl⟩ := (HH.out.below HB2.out).rcells rfl HX.out; obtain ⟨s0, s1, s2, s3, s4, s5, s6, -, -⟩ := (HH.out.below HB2.out).rcells rfl HY.out; obtain ⟨z0, z1, z2, z3, z4, z5, z6, zf, zl⟩ := seven_cells HAz2.out; have hnzp : p ≠ w.heap.size := (by omega); have hmzp : w.heap.size ≠ p := (by omega); have hnzg : g ≠ w.heap.size := (by omega); have hmzg : w.heap.size ≠ g := (by omega); clear hbu1 hbi hbu hAz)
          | (go_at_call 151; have hbu : Below w.heap.size w w1 := HB1.out; have hbu1 : Below w1.heap.size w1 w1 := Below.refl w1.heap.size w1; have hcs := CR.out _ w1 hbu (HD.out.below (hbu1) (Nat.le_refl _) |>.mono hbu1.size); (with_reducible refine hcs.mono ?_); clear hcs; rintro e w2 ⟨rfl, hbi⟩; have HB2 := ghid (hbu.trans (hbi.mono hbu.size)); have hs2 := HB2.out.size; clear c0 c1 c2 c3 c4 c5 cf hpl r0 r1 r2 r3 r4 r5 r6 rf hgl s0 s1 s2 s3 s4 s5 s6; obtain ⟨c0, c1, c2, c3, c4, c5, cf, hpl⟩ := six_cells (HH.out.below HB2.out).cells; rw [← HLD.out] at c4; obtain ⟨r0, r1, r2, r3, r4, r5, r6, rf, hgl⟩ := (HH.out.below HB2.out).rcells rfl HX.out; obtain ⟨s0, s1, s2, s3, s4, s5, s6, -, -⟩ := (HH.out.below HB2.out).rcells rfl HY.out; clear hbu1 hbi hbu)
          | (go_at_call 151; have hbu : Below w.heap.size w (w1.alloc (.cells #[.int .i64 0, .slice none 0 0, .string ⟨#[]⟩, .int .i64 0, .slice none 0 0, .slice none 0 0, .slice none 0 0] 50)) := (HB1.out.alloc HB1.out.size (.cells #[.int .i64 0, .slice none 0 0, .string ⟨#[]⟩, .int .i64 0, .slice none 0 0, .slice none 0 0, .slice none 0 0] 50)); have hAz : (w1.alloc (.cells #[.int .i64 0, .slice none 0 0, .string ⟨#[]⟩, .int .i64 0, .slice none 0 0, .slice none 0 0, .slice none 0 0] 50)).heap[w1.heap.size]? = some (.cells #[.int .i64 0, .slice none 0 0, .string ⟨#[]⟩, .int .i64 0, .slice none 0 0, .slice none 0 0, .slice none 0 0] 50 (0, 0)) := heap_alloc_new w1 (.cells #[.int .i64 0, .slice none 0 0, .string ⟨#[]⟩, .int .i64 0, .slice none 0 0, .slice none 0 0, .slice none 0 0] 50); have hbu1 : Below w1.heap.size w1 (w1.alloc (.cells #[.int .i64 0, .slice none 0 0, .string ⟨#[]⟩, .int .i64 0, .slice none 0 0, .slice none 0 0, .slice none 0 0] 50)) := (Below.refl w1.heap.size w1).alloc (Nat.le_refl _) (.cells #[.int .i64 0, .slice none 0 0, .string ⟨#[]⟩, .int .i64 0, .slice none 0 0, .slice none 0 0, .slice none 0 0] 50); have hcs := CR.out _ (w1.alloc (.cells #[.int .i64 0, .slice none 0 0, .string ⟨#[]⟩, .int .i64 0, .slice none 0 0, .slice none 0 0, .slice none 0 0] 50)) hbu (HD.out.below (hbu1) (Nat.le_refl _) |>.mono hbu1.size); (with_reducible refine hcs.mono ?_); clear hcs; rintro e w2 ⟨rfl, hbi⟩; have HB2 := ghid (hbu.trans (hbi.mono hbu.size)); have HLz2 := ghid (Array.getElem?_eq_some_iff.1 hAz).1; have HAz2 := ghid ((hbi.block _ (Array.getElem?_eq_some_iff.1 hAz).1).trans hAz); have hs2 := HB2.out.size; clear c0 c1 c2 c3 c4 c5 cf hpl r0 r1 r2 r3 r4 r5 r6 rf hgl s0 s1 s2 s3 s4 s5 s6; obtain ⟨c0, c1, c2, c3, c4, c5, cf, hpl⟩ := six_cells (HH.out.below HB2.out).cells; rw [← HLD.out] at c4; obtain ⟨r0, r1, r2, r3, r4, r5, r6, rf, hgl⟩ := (HH.out.below HB2.out).rcells rfl HX.out; obtain ⟨s0, s1, s2, s3, s4, s5, s6, -, -⟩ := (HH.out.below HB2.out).rcells rfl HY.out; obtain ⟨z0, z1, z2, z3, z4, z5, z6, zf, zl⟩ := seven_cells HAz2.out; have hnzp : p ≠ w1.heap.size := (by omega); have hmzp : w1.heap.size ≠ p := (by omega); have hnzg : g ≠ w1.heap.size := (by omega); have hmzg : w1.heap.size ≠ g := (by omega); clear hbu1 hbi hbu hAz)
          | (go_at_call 150; have hbu : Below w.heap.size w w2 := HB2.out; have hAz : w2.heap[w1.heap.size]? = some (.cells #[.int .i64 0, .slice none 0 0, .string ⟨#[]⟩, .int .i64 0, .slice none 0 0, .slice none 0 0, .slice none 0 0] 50 (0, 0)) := HAz2.out; have hcs := CC.out w2 hbu; (with_reducible refine hcs.mono ?_); clear hcs; rintro e w3 ⟨v1, rfl, hf1, hbi⟩; have HB3 := ghid (hbu.trans (hbi.mono hbu.size)); have HLz3 := ghid (Array.getElem?_eq_some_iff.1 hAz).1; have HAz3 := ghid ((hbi.block _ (Array.getElem?_eq_some_iff.1 hAz).1).trans hAz); obtain ⟨zeo, zlo, zpo, zso, zec, zln, zlc, zpn, zpc, zsn, zsc, rfl, -⟩ := id hf1.now; have HF := ghid hf1; have HG := ghid hbu.size; clear hf1; have hs3 := HB3.out.size; clear c0 c1 c2 c3 c4 c5 cf hpl r0 r1 r2 r3 r4 r5 r6 rf hgl s0 s1 s2 s3 s4 s5 s6; obtain ⟨c0, c1, c2, c3, c4, c5, cf, hpl⟩ := six_cells (HH.out.below HB3.out).cells; rw [← HLD.out] at c4; obtain ⟨r0, r1, r2, r3, r4, r5, r6, rf, hgl⟩ := (HH.out.below HB3.out).rcells rfl HX.out; obtain ⟨s0, s1, s2, s3, s4, s5, s6, -, -⟩ := (HH.out.below HB3.out).rcells rfl HY.out; obtain ⟨z0, z1, z2, z3, z4, z5, z6, zf, zl⟩ := seven_cells HAz3.out; have hnzp : p ≠ w1.heap.size := (by omega); have hmzp : w1.heap.size ≠ p := (by omega); have hnzg : g ≠ w1.heap.size := (by omega); have hmzg : w1.heap.size ≠ g := (by omega); clear hbi hbu hAz)
          | (go_at_call 150; have hbu : Below w.heap.size w w2 := HB2.out; have hAz : w2.heap[w.heap.size]? = some (.cells #[.int .i64 0, .slice none 0 0, .string ⟨#[]⟩, .int .i64 0, .slice none 0 0, .slice none 0 0, .slice none 0 0] 50 (0, 0)) := HAz2.out; have hcs := CC.out w2 hbu; (with_reducible refine hcs.mono ?_); clear hcs; rintro e w3 ⟨v1, rfl, hf1, hbi⟩; have HB3 := ghid (hbu.trans (hbi.mono hbu.size)); have HLz3 := ghid (Array.getElem?_eq_some_iff.1 hAz).1; have HAz3 := ghid ((hbi.block _ (Array.getElem?_eq_some_iff.1 hAz).1).trans hAz); obtain ⟨zeo, zlo, zpo, zso, zec, zln, zlc, zpn, zpc, zsn, zsc, rfl, -⟩ := id hf1.now; have HF := ghid hf1; have HG := ghid hbu.size; clear hf1; have hs3 := HB3.out.size; clear c0 c1 c2 c3 c4 c5 cf hpl r0 r1 r2 r3 r4 r5 r6 rf hgl s0 s1 s2 s3 s4 s5 s6; obtain ⟨c0, c1, c2, c3, c4, c5, cf, hpl⟩ := six_cells (HH.out.below HB3.out).cells; rw [← HLD.out] at c4; obtain ⟨r0, r1, r2, r3, r4, r5, r6, rf, hgl⟩ := (HH.out.below HB3.out).rcells rfl HX.out; obtain ⟨s0, s1, s2, s3, s4, s5, s6, -, -⟩ := (HH.out.below HB3.out).rcells rfl HY.out; obtain ⟨z0, z1, z2, z3, z4, z5, z6, zf, zl⟩ := seven_cells HAz3.out; have hnzp : p ≠ w.heap.size := (by omega); have hmzp : w.heap.size ≠ p := (by omega); have hnzg : g ≠ w.heap.size := (by omega); have hmzg : w.heap.size ≠ g := (by omega); clear hbi hbu hAz)
          | (go_at_call 150; have hbu : Below w.heap.size w w2 := HB2.out; have hcs := CC.out w2 hbu; (with_reducible refine hcs.mono ?_); clear hcs; rintro e w3 ⟨v1, rfl, hf1, hbi⟩; have HB3 := ghid (hbu.trans (hbi.mono hbu.size)); obtain ⟨zeo, zlo, zpo, zso, zec, zln, zlc, zpn, zpc, zsn, zsc, rfl, -⟩ := id hf1.now; have HF := ghid hf1; have HG := ghid hbu.size; clear hf1; have hs3 := HB3.out.size; clear c0 c1 c2 c3 c4 c5 cf hpl r0 r1 r2 r3 r4 r5 r6 rf hgl s0 s1 s2 s3 s4 s5 s6; obtain ⟨c0, c1, c2, c3, c4, c5, cf, hpl⟩ := six_cells (HH.out.below HB3.out).cells; rw [← HLD.out] at c4; obtain ⟨r0, r1, r2, r3, r4, r5, r6, rf, hgl⟩ := (HH.out.below HB3.out).rcells rfl HX.out; obtain ⟨s0, s1, s2, s3, s4, s5, s6, -, -⟩ := (HH.out.below HB3.out).rcells rfl HY.out; clear hbi hbu)
          | (go_at_call 150; have hbu : Below w.heap.size w (w2.alloc (.cells #[.int .i64 0, .slice none 0 0, .string ⟨#[]⟩, .int .i64 0, .slice none 0 0, .slice none 0 0, .slice none 0 0] 50)) := (HB2.out.alloc HB2.out.size (.cells #[.int .i64 0, .slice none 0 0, .string ⟨#[]⟩, .int .i64 0, .slice none 0 0, .slice none 0 0, .slice none 0 0] 50)); have hAz : (w2.alloc (.cells #[.int .i64 0, .slice none 0 0, .string ⟨#[]⟩, .int .i64 0, .slice none 0 0, .slice none 0 0, .slice none 0 0] 50)).heap[w2.heap.size]? = some (.cells #[.int .i64 0, .slice none 0 0, .string ⟨#[]⟩, .int .i64 0, .slice none 0 0, .slice none 0 0, .slice none 0 0] 50 (0, 0)) := heap_alloc_new w2 (.cells #[.int .i64 0, .slice none 0 0, .string ⟨#[]⟩, .int .i64 0, .slice none 0 0, .slice none 0 0, .slice none 0 0] 50); have hcs := CC.out (w2.alloc (.cells #[.int .i64 0, .slice none 0 0, .string ⟨#[]⟩, .int .i64 0, .slice none 0 0, .slice none 0 0, .slice none 0 0] 50)) hbu; (with_reducible refine hcs.mono ?_); clear hcs; rintro e w3 ⟨v1, rfl, hf1, hbi⟩; have HB3 := ghid (hbu.trans (hbi.mono hbu.size)); have HLz3 := ghid (Array.getElem?_eq_some_iff.1 hAz).1; have HAz3 := ghid ((hbi.block _ (Array.getElem?_eq_some_iff.1 hAz).1).trans hAz); obtain ⟨zeo, zlo, zpo, zso, zec, zln, zlc, zpn, zpc, zsn, zsc, rfl, -⟩ := id hf1.now; have HF := ghid hf1; have HG := ghid hbu.size; clear hf1; have hs3 := HB3.out.size; clear c0 c1 c2 c3 c4 c5 cf hpl r0 r1 r2 r3 r4 r5 r6 rf hgl s0 s1 s2 s3 s4 s5 s6; obtain ⟨c0, c1, c2, c3, c4, c5, cf, hpl⟩ := six_cells (HH.out.below HB3.out).cells; rw [← HLD.out] at c4; obtain ⟨r0, r1, r2, r3, r4, r5, r6, rf, hgl⟩ := (HH.out.below HB3.out).rcells rfl HX.out; obtain ⟨s0, s1, s2, s3, s4, s5, s6, -, -⟩ := (HH.out.below HB3.out).rcells rfl HY.out; obtain ⟨z0, z1, z2, z3, z4, z5, z6, zf, zl⟩ := seven_cells HAz3.out; have hnzp : p ≠ w2.heap.size := (by omega); have hmzp : w2.heap.size ≠ p := (by omega); have hnzg : g ≠ w2.heap.size := (by omega); have hmzg : w2.heap.size ≠ g := (by omega); clear hbi hbu hAz))
      all_goals
        go_wp2
        go_meet
        first
        | (have hA := heap_alloc_new w3 (.cells #[.int .i64 zd.log.base, .slice zeo zd.log.ents.length zec, .string zd.snap, .int .i64 zd.state.index, .slice zlo zln zlc, .slice zpo zpn zpc, .slice zso zsn zsc] 50)
           have hB := HB3.out.alloc HB3.out.size (.cells #[.int .i64 zd.log.base, .slice zeo zd.log.ents.length zec, .string zd.snap, .int .i64 zd.state.index, .slice zlo zln zlc, .slice zpo zpn zpc, .slice zso zsn zsc] 50)
           have hC := (HF.out.below ((Below.refl w3.heap.size w3).alloc (Nat.le_refl _) (.cells #[.int .i64 zd.log.base, .slice zeo zd.log.ents.length zec, .string zd.snap, .int .i64 zd.state.index, .slice zlo zln zlc, .slice zpo zpn zpc, .slice zso zsn zsc] 50))).k fun j _ hj => ⟨Nat.lt_of_lt_of_le (HKL.out j hj) HG.out, (HH.out.below hB).odd odd_out hj⟩
           have hD := HB3.out.size
           with_reducible exact ⟨w3.heap.size, zec, zln, zlc, zpn, zpc, zsn, zsc, zeo, zlo, zpo, zso, rfl, rfl, hA, hC, hD, hB⟩)
        | (have hA := set7 HAz3.out (.int .i64 zd.log.base) (.slice zeo zd.log.ents.length zec) (.string zd.snap) (.int .i64 zd.state.index) (.slice zlo zln zlc) (.slice zpo zpn zpc) (.slice zso zsn zsc)
           have hB := zset7 (b := w2.heap.size) HB3.out (by omega) (.int .i64 zd.log.base) (.slice zeo zd.log.ents.length zec) (.string zd.snap) (.int .i64 zd.state.index) (.slice zlo zln zlc) (.slice zpo zpn zpc) (.slice zso zsn zsc)
           have hC := (HF.out.touch (touch7 (w2.heap.size) (.int .i64 zd.log.base) (.slice zeo zd.log.ents.length zec) (.string zd.snap) (.int .i64 zd.state.index) (.slice zlo zln zlc) (.slice zpo zpn zpc) (.slice zso zsn zsc)) fun _ _ e => e ▸ ⟨HLz3.out, rep_alien HAz3.out⟩).k fun j _ hj => ⟨Nat.lt_of_lt_of_le (HKL.out j hj) HG.out, (HH.out.below hB).odd odd_out hj⟩
           have hD : w.heap.size ≤ w2.heap.size := by omega
           with_reducible exact ⟨w2.heap.size, zec, zln, zlc, zpn, zpc, zsn, zsc, zeo, zlo, zpo, zso, rfl, rfl, hA, hC, hD, hB⟩)
        | (have hA := set7 HAz3.out (.int .i64 zd.log.base) (.slice zeo zd.log.ents.length zec) (.string zd.snap) (.int .i64 zd.state.index) (.slice zlo zln zlc) (.slice zpo zpn zpc) (.slice zso zsn zsc)
           have hB := zset7 (b := w1.heap.size) HB3.out (by omega) (.int .i64 zd.log.base) (.slice zeo zd.log.ents.length zec) (.string zd.snap) (.int .i64 zd.state.index) (.slice zlo zln zlc) (.slice zpo zpn zpc) (.slice zso zsn zsc)
           have hC := (HF.out.touch (touch7 (w1.heap.size) (.int .i64 zd.log.base) (.slice zeo zd.log.ents.length zec) (.string zd.snap) (.int .i64 zd.state.index) (.slice zlo zln zlc) (.slice zpo zpn zpc) (.slice zso zsn zsc)) fun _ _ e => e ▸ ⟨HLz3.out, rep_alien HAz3.out⟩).k fun j _ hj => ⟨Nat.lt_of_lt_of_le (HKL.out j hj) HG.out, (HH.out.below hB).odd odd_out hj⟩
           have hD : w.heap.size ≤ w1.heap.size := by omega
           with_reducible exact ⟨w1.heap.size, zec, zln, zlc, zpn, zpc, zsn, zsc, zeo, zlo, zpo, zso, rfl, rfl, hA, hC, hD, hB⟩)
        | (have hA := set7 HAz3.out (.int .i64 zd.log.base) (.slice zeo zd.log.ents.length zec) (.string zd.snap) (.int .i64 zd.state.index) (.slice zlo zln zlc) (.slice zpo zpn zpc) (.slice zso zsn zsc)
           have hB := zset7 (b := w.heap.size) HB3.out (by omega) (.int .i64 zd.log.base) (.slice zeo zd.log.ents.length zec) (.string zd.snap) (.int .i64 zd.state.index) (.slice zlo zln zlc) (.slice zpo zpn zpc) (.slice zso zsn zsc)
           have hC := (HF.out.touch (touch7 (w.heap.size) (.int .i64 zd.log.base) (.slice zeo zd.log.ents.length zec) (.string zd.snap) (.int .i64 zd.state.index) (.slice zlo zln zlc) (.slice zpo zpn zpc) (.slice zso zsn zsc)) fun _ _ e => e ▸ ⟨HLz3.out, rep_alien HAz3.out⟩).k fun j _ hj => ⟨Nat.lt_of_lt_of_le (HKL.out j hj) HG.out, (HH.out.below hB).odd odd_out hj⟩
           have hD : w.heap.size ≤ w.heap.size := by omega
           with_reducible exact ⟨w.heap.size, zec, zln, zlc, zpn, zpc, zsn, zsc, zeo, zlo, zpo, zso, rfl, rfl, hA, hC, hD, hB⟩)
    case rest =>
      obtain ⟨bx, zec, zln, zlc, zpn, zpc, zsn, zsc, zeo, zlo, zpo, zso, rfl, rfl, hbx, hf, hbl, hbw⟩ := hcut
      have HBW := ghid hbw
      have HF := ghid hf
      have HM2 := ghid (HH.out.below hbw)
      clear c0 c1 c2 c3 c4 c5 cf hpl r0 r1 r2 r3 r4 r5 r6 rf hgl s0 s1 s2 s3 s4 s5 s6
      obtain ⟨x0, x1, x2, x3, x4, x5, x6, xf, xl⟩ := seven_cells hbx
      obtain ⟨x, hx, -⟩ := HM2.out.rep hkk
      obtain ⟨r0, r1, r2, r3, r4, r5, r6, rf, hgl⟩ := HM2.out.rcells rfl hx
      have hbg : bx ≠ g := by omega
      have hgb : g ≠ bx := by omega
      clear hbx hf hbw CD CR CC hx
      by_cases h0 : ze = 0
      · have HRR : Hid (R = ((t.setRep k zd).commit, 0)) := HR.out.trans (if_neg (by simpa using h0))
        subst h0
        have HTC := ghid (HM2.out.touchR (k := k) rfl ⟨zd, zeo, zlo, zpo, zso, zec, zln, zlc, zpn, zpc, zsn, zsc⟩)
        have CM := ghid (commit_any (HM2.out.putRep odd_out rfl hkk (y := ⟨zd, zeo, zlo, zpo, zso, zec, zln, zlc, zpn, zpc, zsn, zsc⟩) HF.out) HOK.out (by omega))
        have HMV := ghid (fun W' (hm : MovedE 32 [gh, g2, ev] (putN wc g (k * 7) (repCells ⟨zd, zeo, zlo, zpo, zso, zec, zln, zlc, zpn, zpc, zsn, zsc⟩)) W' p K (t.setRep k zd).commit) => (hm.next (fun _ e => .inl e) HTC.out).behind HBW.out)
        rw [putN_rep] at CM HMV
        clear HR HTC HOK HF
        go_wp2_with fail
        refine CM.out.mono ?_
        rintro e w4 ⟨rfl, hm4⟩
        have HM4 := ghid (HMV.out _ hm4)
        clear hm4 CM HMV
        go_wp2
        go_ret
        exact ⟨sret_int (by rw [HRR.out]), by rw [HRR.out]; exact HM4.out⟩
      · have HRR : Hid (R = (t, ze)) := HR.out.trans (if_pos h0)
        have hzb : (ze != 0) = true := by simpa using h0
        clear HR HOK HF
        go_wp2
        go_ret
        exact ⟨sret_int (by rw [HRR.out]), by rw [HRR.out]; exact MovedE.same ⟨_, _, _, _, _, _, HH.out⟩ HBW.out⟩

end

end Go.Proofs.YtijilhbdbeajjaaGreatDoor

namespace Go.Proofs.YtijilhbdbeajjaaGreatDoor

open Go.RowKit

theorem formFrom_small : ∀ {a h : Int} {ks : List KeptD}, formFrom a h ks = true → ∀ k ∈ ks, k.text.size ≤ 12
  | a, h, [], _, k, hk => by cases hk
  | a, h, x :: r, hf, k, hk => by
    rw [formFrom_cons, Bool.and_eq_true, Bool.and_eq_true, Bool.and_eq_true] at hf
    rcases List.mem_cons.1 hk with rfl | hk
    · exact (replyB_iff.1 hf.2.2.1).2.2.2.2
    · exact formFrom_small hf.2.2.2 k hk

theorem answer_small {x : SessD} (hf : sformB x = true) (e u q : Int) : (answerD (hearD x e u) q).1.text.size ≤ 12 := by
  have e0 : (⟨#[]⟩ : ByteArray).size = 0 := rfl
  unfold answerD
  split
  · simp only; omega
  · split
    · rename_i k _ hk
      have hm := List.mem_of_getElem? hk
      exact formFrom_small hf k (List.mem_filter.1 hm).1
    · split
      · simp only; omega
      · simp only; omega

theorem reply_small {s : StateD} (hg : GoodM s) {x : CmdD} (hx : x.err = 0) : (applyM s x).2.text.size ≤ 12 := by
  have e0 : (⟨#[]⟩ : ByteArray).size = 0 := rfl
  have hd := hg.drop
  obtain ⟨-, hc, hk⟩ := cmdE_parts hx
  show (obeyM (dropM s) x).2.text.size ≤ 12
  unfold obeyM
  split
  · unfold joinS
    split
    · simp only; omega
    · split
      · simp only; omega
      · simp only; omega
  · split
    · unfold leaveS
      split
      · simp only; omega
      · simp only; omega
    · rename_i h1 h3
      have hk2 : x.kind = 2 := by have := (cmdE_parts hx).1; omega
      obtain ⟨-, -, -, ho⟩ := hk hk2
      obtain ⟨o1, o2, o3⟩ := opE_zero ho
      unfold callM
      split
      · have := (operM_good (s := { dropM s with sess := (readyS (dropM s).sess (dropM s).index x.client x.session x.seq x.acked).1 }) hd.locks hd.pairs (c := x.client) (k := x.ok) (a := x.a) (b := x.b) (n := x.n) ⟨hc, o1, o2, o3⟩).2.2.1
        exact (replyB_iff.1 this).2.2.2.2
      · cases ht : thereS (dropM s).sess x.client with
        | false => rw [readyS_away ht]; simp only; omega
        | true =>
          obtain ⟨y, hy, e⟩ := thereS_some ht
          by_cases hs : y.id = x.session
          · rw [readyS_here ht hy hs]
            exact answer_small (hd.sess.fine y (List.mem_of_getElem? hy)).form _ _ _
          · rw [readyS_other ht hy hs]; simp only; omega

/-- All mails that come of entries are short. -/
theorem mails_small {s : StateD} {ts : List ByteArray} (hg : GoodM s) (hd : ∀ t ∈ ts, decE t = 0) (hl : s.index + ts.length ≤ 1073741824) : ∀ m ∈ mailsE s ts, m.reply.text.size ≤ 12 := by
  induction ts generalizing s with
  | nil => intro m hm; cases hm
  | cons t r ih =>
    intro m hm
    have hx := decL_err (hd t (by simp))
    simp only [List.length_cons] at hl
    rcases List.mem_cons.1 hm with rfl | hm
    · exact reply_small hg hx
    · refine ih (applyM_good hg (by omega) hx).1 (fun u hu => hd u (by simp [hu])) ?_ m hm
      rw [applyM_index]
      omega

end Go.Proofs.YtijilhbdbeajjaaGreatDoor

namespace Go.Proofs.YtijilhbdbeajjaaGreatDoor

open Go.RowKit

/-- An append that comes up in a region that draws its order. -/
theorem step_append_go {P : Program} {w : World} {ops : Array Oper} {o : Oper} {a : Act} {K : Act → World → Prop} {Q : Exit → Act → World → Prop} {E : Prop} (hgd : o.guard = none) (s x : Operand) (t : TypeId) (_ho : o.op = .call { callee := .builtin .append, args := #[s, x], argTypes := #[t, t] }) (h : Oper.wp P o a w K Q) : if Region.wanted o (yielded ops a.tmps) = true then Oper.wp P o a w K Q else E := by
  have hw : Region.wanted o (yielded ops a.tmps) = true := by simp [Region.wanted, hgd]
  rw [if_pos hw]
  exact h

/-- What lies at the front of a row, to be appended. -/
theorem row_news {α : Type} {c : α → List Value} {m : Nat} (hc : ∀ x, (c x).length = m) {w : World} {base n cap q : Nat} {e : TypeId} {ao : Option Addr} {xs : List α} (h : w.ownsRow base e m (.slice ao n cap) n (flatG c xs)) (hn : n = xs.length) (hq : q ≤ n) :
    (ao = none → q = 0 ∧ cap = 0) ∧ (flatG c (xs.take q)).length = q * m ∧ (∀ a, ao = some a → ∀ j u, (flatG c (xs.take q))[j]? = some u → w.cell? (a.add j) = some u) := by
  have hl : (flatG c (xs.take q)).length = q * m := by rw [flatG_length hc, List.length_take, Nat.min_eq_left (by omega)]
  refine ⟨fun e => ?_, hl, fun a e j u hj => ?_⟩
  · subst e
    rcases h.2 with ⟨e, h0⟩ | ⟨g, cp, cur, e, -⟩
    · simp only [Value.slice.injEq] at e
      exact ⟨by omega, e.2.2⟩
    · cases e
  · subst e
    rcases h.2 with ⟨e, -⟩ | ⟨g, cp, cur, e, -⟩
    · cases e
    · simp only [Value.slice.injEq, Option.some.injEq, true_and] at e
      obtain ⟨rfl, rfl⟩ := e
      have hjl := (List.getElem?_eq_some_iff.1 hj).1
      rw [hl] at hjl
      have hqm : q * m ≤ n * m := Nat.mul_le_mul_right _ hq
      rw [gadd, Nat.zero_add, h.cellAt j (by omega), ← hj, ← flatG_take hc, List.getElem?_take, if_pos hjl]

section

variable {gh g2 ev : Value} {w : World} {p : Nat} {K : Nat → Prop} {rv cv mv tv : Value} {xs : List RepV} {cs : List CustV} {t : TownD} {n : Nat}

/-- A replica put anew: what was turned. -/
theorem TownM.touchP {ty : TypeId} {tl : List Value} (h : TownM ty tl w p K rv cv mv tv xs cs t) {g cap k : Nat} (hv : rv = .slice (some ⟨g, 0, none⟩) 3 cap) (y : RepV) : TouchG w (putN w g (k * 7) (repCells y)) (fun b => K b ∧ ¬ ∃ v ∈ tl, v.ownBlock = some b) := by
  obtain ⟨c, hg⟩ := grow_tag h.reps (g := g) (by rw [hv]; rfl)
  refine (putN_touch g (repCells y) (k * 7) w).sub fun b _ e => ?_
  subst e
  exact ⟨(h.kdef b).2 (.inr (.inl (by rw [hv]; rfl))), h.notTail hg (by decide) (by decide)⟩

theorem take_room (gm : List MailD) (m : Nat) {q : Nat} (hq : min (60 - (m : Int)) (gm.length : Int) = q) (hm : m ≤ 60) : gm.take (60 - m) = gm.take q := by
  by_cases h : 60 - m ≤ gm.length
  · rw [show 60 - m = q by omega]
  · rw [List.take_of_length_le (by omega), List.take_of_length_le (by omega)]

set_option maxRecDepth 100000 in
set_option maxHeartbeats 6400000 in
theorem apply_town (h : TownM 32 [gh, g2, ev] w p K rv cv mv tv xs cs t) (hT : TownG t n) (hn : n < 400) (hml : t.mails.length ≤ 60) {k : Nat} (hk : k < 3) (m : Int) (hm : -9223372036854775808 ≤ m ∧ m ≤ 9223372036854775807) (R : TownD × Int) (hR : R = t.apply k m) :
    Calls Tryz.prog 108 #[.pointer (some ⟨p, 0, none⟩), .int .i64 (k : Int), .int .i64 m] w fun e w' => e = .returned (.int .i64 R.2) ∧ MovedE 32 [gh, g2, ev] w w' p K R.1 := by
  obtain ⟨i0, hi0, hz0, hz1, hz2⟩ := info_parts Tryz.infoMail
  have hG := hT.town
  have hn4 : n ≤ 400 := by omega
  have hfew := hG.few
  have htx := h.texts (by omega)
  obtain ⟨qo, qc, rfl⟩ := htx.slice
  obtain ⟨g, cap, rfl, hcap, -⟩ := h.rrow
  obtain ⟨mo, mc, rfl⟩ := grow_shape h.mails
  have HH := ghid h
  obtain ⟨c0, c1, c2, c3, c4, c5, cf, hpl⟩ := six_cells h.cells
  unfold TownD.apply at hR
  by_cases hm0 : m < 0
  · have HR := ghid (hR.trans (if_pos hm0))
    clear hR h htx
    go_enter Tryz.func108, Tryz.ntmps108
    go_wp2
    go_ret
    exact ⟨sret_int (by rw [HR.out]), by rw [HR.out]; exact MovedE.same ⟨_, _, _, _, _, _, HH.out⟩ (Below.refl _ _)⟩
  · rw [if_neg hm0] at hR
    obtain ⟨x, hx, hxd, hxr⟩ := h.rep hk
    obtain ⟨r0, r1, r2, r3, r4, r5, r6, rf, hgl⟩ := h.rcells rfl hx
    have HX := ghid hx
    have hrb := right_bound hG hk
    have hgx := lead_good hG hn4 hk
    obtain ⟨b, i, hrep⟩ := hG.reps k hk
    obtain ⟨a1, a2, a3, a4⟩ := apply_parts hG hn4 hk (many := m) (by omega) hrep
    have hmf := may_facts hG hk (many := m) (by omega) hrep hn4
    have hst : (t.rep k).state.index = (i : Int) := by rw [hrep.state]; exact (upS_goodN hG.comm (by omega) hrep.done).2
    have hdone := hrep.done
    have hms : ∀ z ∈ goM (t.rep k) (t.may k m), z.reply.text.size ≤ 140737488351232 := fun z hz => by
      have e1 : goM (t.rep k) (t.may k m) = mailsE (t.rep k).state (todoL (t.rep k) (t.may k m)) := if_pos a1
      rw [e1, a4] at hz
      have hg := (upS_goodN hG.comm (by omega) hrep.done).1
      rw [← hrep.state] at hg
      refine Nat.le_trans (mails_small hg (fun u hu => firstE_zero.1 hG.comm u (List.mem_of_mem_drop (List.mem_of_mem_take hu))) ?_ z hz) (by omega)
      rw [hst, List.length_take, List.length_drop]
      omega
    rw [if_neg (by simpa using a1)] at hR
    have CD := ghid (fun (u : World) (hu : Below w.heap.size w u) => due_any (h.below hu) hG hn4)
    have CR := ghid (fun (dv : Value) (u : World) (hu : Below w.heap.size w u) (hd : TextsR u u.heap.size dv t.due) => right_any hG hn4 hk x hxd dv u u.heap.size ((hxr.below hu (Nat.le_refl _)).mono hu.size) hd (Nat.le_refl _))
    have CA := ghid (fun (u : World) (hu : Below w.heap.size w u) => repApply_any x.val (t.rep k) (t.may k m) u w.heap.size (hxr.below hu (Nat.le_refl _)) hu.size hgx (by rw [hmf]; omega))
    have HMS := ghid hms
    have HMAY : Hid (t.may k m = min (min ((t.rep k).state.index + min m 400) (t.comm.length : Int)) (t.right (t.rep k) : Int)) := rfl
    rw [← hxd] at HMAY hst
    obtain ⟨up, hup⟩ : ∃ z, z = t.may k m := ⟨_, rfl⟩
    obtain ⟨rk, hrk⟩ : ∃ z, z = t.right (t.rep k) := ⟨_, rfl⟩
    obtain ⟨gl, hgll⟩ : ∃ z, z = goL (t.rep k) up := ⟨_, rfl⟩
    obtain ⟨gm, hgm⟩ : ∃ z, z = goM (t.rep k) up := ⟨_, rfl⟩
    obtain ⟨cl, hcl⟩ : ∃ z, z = t.comm.length := ⟨_, rfl⟩
    obtain ⟨ml, hmll⟩ : ∃ z, z = t.mails.length := ⟨_, rfl⟩
    rw [← hup, ← hgll, ← hgm, ← hmll] at hR
    rw [← hup, ← hgm] at HMS
    rw [← hup, ← hgll, ← hgm] at CA
    rw [← hup, hxd, ← hrk, ← hxd, ← hcl] at HMAY
    rw [← hrk] at CR
    rw [← hcl] at c3
    rw [← hmll] at c2 hml
    have HCL := ghid hcl
    have HML := ghid hmll
    have HR := ghid hR
    obtain ⟨xd, xeo, xlo, xpo, xso, xec, xln, xlc, xpn, xpc, xsn, xsc⟩ := x
    simp only [RepV.val] at r0 r1 r2 r3 r4 r5 r6 CR CA HMAY hst
    have hwr : IntKind.i64.wrap (xd.state.index + min m 400) = xd.state.index + min m 400 := by rw [IntKind.wrap_i64, hst, Int.min_def]; split <;> omega
    have hupq : (if (rk : Int) < if (cl : Int) < xd.state.index + min m 400 then (cl : Int) else xd.state.index + min m 400 then (rk : Int) else if (cl : Int) < xd.state.index + min m 400 then (cl : Int) else xd.state.index + min m 400) = up := by
      rw [HMAY]
      generalize xd.state.index + min m 400 = A
      rw [Int.min_def, Int.min_def]
      repeat' split
      all_goals omega
    have hk3 : (k : Int) < 3 := by omega
    have hkk := hk
    have hg0 := hgl
    clear h hx hxd hxr hgx hrk hR hcl hup hgll hgm hmll htx hms hrep a1 a2 a3 a4 hmf hst hrb
    go_enter Tryz.func108, Tryz.ntmps108
    go_upto_region 4 with fail
    go_upto_region 5 with fail
    go_cut [8] (fun uv wx => uv = .int .i64 up ∧ Below w.heap.size w wx)
    case first =>
      go_region_held3 (fun w' => w'.cell? ⟨p, 3, none⟩ = some (.slice qo cl qc) ∧ w'.cell? ⟨g, k * 7, none⟩ = some (.int .i64 xd.log.base) ∧ w'.cell? ⟨g, k * 7 + 1, none⟩ = some (.slice xeo xd.log.ents.length xec) ∧ w'.cell? ⟨g, k * 7 + 2, none⟩ = some (.string xd.snap) ∧ w'.cell? ⟨g, k * 7 + 3, none⟩ = some (.int .i64 xd.state.index) ∧ w'.cell? ⟨g, k * 7 + 4, none⟩ = some (.slice xlo xln xlc) ∧ w'.cell? ⟨g, k * 7 + 5, none⟩ = some (.slice xpo xpn xpc) ∧ w'.cell? ⟨g, k * 7 + 6, none⟩ = some (.slice xso xsn xsc)) (go_keep)
      (first
        | (go_at_call 152; have hd := (Below.refl w.heap.size w).drew; refine (CD.out _ hd).mono ?_; rintro e w1 ⟨v1, rfl, hd1, hb1⟩; have HD1 := ghid hd1; have HB1 := ghid (hd.trans hb1); clear hd1 hb1 hd; clear c0 c1 c2 c3 c4 c5 cf hpl r0 r1 r2 r3 r4 r5 r6 rf hgl; obtain ⟨c0, c1, c2, c3, c4, c5, cf, hpl⟩ := six_cells (HH.out.below HB1.out).cells; obtain ⟨r0, r1, r2, r3, r4, r5, r6, rf, hgl⟩ := (HH.out.below HB1.out).rcells rfl HX.out; rw [← HCL.out] at c3)
        | (go_at_call 151; refine (CR.out _ _ HB1.out HD1.out).mono ?_; rintro e w2 ⟨rfl, hb2⟩; have HB2 := ghid (HB1.out.trans (hb2.mono HB1.out.size)); clear hb2; clear c0 c1 c2 c3 c4 c5 cf hpl r0 r1 r2 r3 r4 r5 r6 rf hgl; obtain ⟨c0, c1, c2, c3, c4, c5, cf, hpl⟩ := six_cells (HH.out.below HB2.out).cells; obtain ⟨r0, r1, r2, r3, r4, r5, r6, rf, hgl⟩ := (HH.out.below HB2.out).rcells rfl HX.out; rw [← HCL.out] at c3))
      all_goals
        go_wp2
        go_meet
        have hB := HB2.out
        with_reducible exact ⟨rfl, hB⟩
    case rest =>
      obtain ⟨rfl, hbw⟩ := hcut
      have HBW := ghid hbw
      clear c0 c1 c2 c3 c4 c5 cf hpl r0 r1 r2 r3 r4 r5 r6 rf hgl hupq CD CR hwr
      have HM0 := ghid (HH.out.below hbw)
      obtain ⟨c0, c1, c2, c3, c4, c5, cf, hpl⟩ := six_cells HM0.out.cells
      obtain ⟨r0, r1, r2, r3, r4, r5, r6, rf, hgl⟩ := HM0.out.rcells rfl HX.out
      have CA0 := ghid (CA.out _ hbw)
      clear hbw CA
      go_wp2_with fail
      refine CA0.out.mono ?_
      rintro e w5 ⟨v5, mv5, rfl, ho5, hr5, hb5⟩
      obtain ⟨⟨yd, yeo, ylo, ypo, yso, yec, yln, ylc, ypn, ypc, ysn, ysc⟩, rfl, hyd, hy⟩ := HH.out.firmR (HBW.out.trans (hb5.mono HBW.out.size)) (ho5.firm.mono HBW.out.size)
      obtain ⟨ro, rc, rfl⟩ := grow_shape hr5
      simp only [RepV.val] at hyd ⊢
      have hba : Below w5.heap.size w5 (w5.alloc (.cells #[.int .i64 yd.log.base, .slice yeo yd.log.ents.length yec, .string yd.snap, .int .i64 yd.state.index, .slice ylo yln ylc, .slice ypo ypn ypc, .slice yso ysn ysc] 50)) := (Below.refl _ _).alloc (Nat.le_refl _) _
      have HB6 := ghid ((HBW.out.trans (hb5.mono HBW.out.size)).trans (hba.mono (Nat.le_trans HBW.out.size hb5.size)))
      have HX6 := ghid (heap_alloc_new w5 (.cells #[.int .i64 yd.log.base, .slice yeo yd.log.ents.length yec, .string yd.snap, .int .i64 yd.state.index, .slice ylo yln ylc, .slice ypo ypn ypc, .slice yso ysn ysc] 50))
      have HY6 := ghid (hy.draw hba)
      have HR6 := ghid (grow_below hr5 hba (Nat.le_refl _))
      obtain ⟨w6, hw6⟩ : ∃ w6, w6 = w5.alloc (.cells #[.int .i64 yd.log.base, .slice yeo yd.log.ents.length yec, .string yd.snap, .int .i64 yd.state.index, .slice ylo yln ylc, .slice ypo ypn ypc, .slice yso ysn ysc] 50) := ⟨_, rfl⟩
      obtain ⟨bx, hbx⟩ : ∃ b, b = w5.heap.size := ⟨_, rfl⟩
      have hbl : w.heap.size ≤ bx := by have := hb5.size; have := HBW.out.size; omega
      have HYD := ghid hyd
      rw [← hw6] at HB6 HX6 HY6 HR6
      rw [← hbx] at HX6
      have HW6 := ghid hw6
      have HBX := ghid hbx
      clear ho5 hr5 hb5 hy hba hw6 hbx hyd CA0 c0 c1 c2 c3 c4 c5 cf hpl r0 r1 r2 r3 r4 r5 r6 rf hgl
      go_upto_region 6 with fail
      rw [← HW6.out, ← HBX.out]
      have HM6 := ghid (HH.out.below HB6.out)
      obtain ⟨c0, c1, c2, c3, c4, c5, cf, hpl⟩ := six_cells HM6.out.cells
      obtain ⟨x0, x1, x2, x3, x4, x5, x6, xf, xl⟩ := seven_cells HX6.out
      obtain ⟨x, hx, -⟩ := HM6.out.rep hkk
      obtain ⟨r0, r1, r2, r3, r4, r5, r6, rf, hgl⟩ := HM6.out.rcells rfl hx
      have hbg : bx ≠ g := by omega
      have hgb : g ≠ bx := by omega
      have hpg : p ≠ g := fun e => by
        obtain ⟨c, hc⟩ := grow_tag HM6.out.reps (g := g) rfl
        have := HM6.out.cells
        rw [e, hc] at this
        simp at this
      have hgp : g ≠ p := fun e => hpg e.symm
      have HM8 := ghid (HM6.out.putRep odd_out rfl hkk (y := ⟨yd, yeo, ylo, ypo, yso, yec, yln, ylc, ypn, ypc, ysn, ysc⟩) HY6.out)
      have HT8 := ghid (HM6.out.touchP (k := k) rfl ⟨yd, yeo, ylo, ypo, yso, yec, yln, ylc, ypn, ypc, ysn, ysc⟩)
      have HMV := ghid (fun (W' : World) (t' : TownD) (hm : MovedE 32 [gh, g2, ev] (putN w6 g (k * 7) (repCells ⟨yd, yeo, ylo, ypo, yso, yec, yln, ylc, ypn, ypc, ysn, ysc⟩)) W' p K t') => (hm.next (fun _ e => .inl e) HT8.out).behind HB6.out)
      have HR8 := ghid (grow_keep HR6.out fun b hb => (putN_touch g (repCells ⟨yd, yeo, ylo, ypo, yso, yec, yln, ylc, ypn, ypc, ysn, ysc⟩) (k * 7) w6).block b (HR6.out.lt b hb).2 fun e => by have := (HR6.out.lt b hb).1; have := HBW.out.size; omega)
      obtain ⟨w8, hw8⟩ : ∃ w8, w8 = putN w6 g (k * 7) (repCells ⟨yd, yeo, ylo, ypo, yso, yec, yln, ylc, ypn, ypc, ysn, ysc⟩) := ⟨_, rfl⟩
      rw [← hw8] at HM8 HMV HR8
      have HW8 := ghid (hw8.trans (putN_rep _ _ _ _))
      clear hx hw8 HT8 HX6 HY6 HR6
      go_upto_region 9 with fail
      rw [← HW8.out]
      clear HW8 HM6 x0 x1 x2 x3 x4 x5 x6 xf xl r0 r1 r2 r3 r4 r5 r6 rf hgl c0 c1 c2 c3 c4 c5 cf hpl
      have HC8 : Hid (w8.heap[p]? = some (.cells #[.slice (some ⟨g, 0, none⟩) 3 cap, cv, .slice mo t.mails.length mc, .slice qo t.comm.length qc, .int .i64 t.leader, ev] 32 (0, 0))) := HM8.out.cells
      obtain ⟨c0, c1, c2, c3, c4, c5, cf, hpl⟩ := six_cells HC8.out
      by_cases hkl : k = t.leader
      · have hkli : (k : Int) = t.leader := by omega
        obtain ⟨q, hq⟩ : ∃ q : Nat, min (60 - (ml : Int)) (gm.length : Int) = (q : Int) := ⟨(min (60 - (ml : Int)) (gm.length : Int)).toNat, by omega⟩
        have HRR : Hid (R = ({ (t.setRep k gl) with mails := t.mails ++ gm.take q }, 0)) := by
          unfold Hid
          rw [HR.out, if_pos hkl, take_room gm ml hq hml]
        have hq0 : q ≤ gm.length := by omega
        have hq1 : q ≤ 60 - ml := by omega
        have hrc : gm.length ≤ rc := by
          rcases HR8.out.2 with ⟨e, h0⟩ | ⟨_, _, _, e, -, -, hle, -⟩
          · omega
          · simp only [Value.slice.injEq] at e
            rw [e.2.2]; exact hle
        have hq2 : (q : Int) ≤ rc := by omega
        have hw60 : IntKind.i64.wrap (60 - (ml : Int)) = 60 - ml := by rw [IntKind.wrap_i64]; omega
        have HN := ghid (row_news mailCells_len HR8.out rfl hq0)
        have HOW : Hid (w8.ownsRow 0 92 5 (.slice mo t.mails.length mc) t.mails.length (flatG mailCells t.mails)) := HM8.out.mails
        have HNP : Hid ((Value.slice mo t.mails.length mc).ownBlock ≠ some p) := fun e => by
          obtain ⟨c, hc⟩ := grow_tag HM8.out.mails e
          have := HM8.out.cells
          rw [hc] at this
          simp at this
        have HFIN : Hid (∀ (W2 : World) (ao2 : Option Addr) (cap2 : Nat), W2.ownsRow 0 92 5 (.slice ao2 (ml + q) cap2) (ml + q) (flatG mailCells t.mails ++ flatG mailCells (gm.take q)) → w8.drew.grownBy W2 (Value.slice mo ml mc).ownBlock → ((Value.slice ao2 (ml + q) cap2).ownBlock = (Value.slice mo ml mc).ownBlock ∨ (Value.slice ao2 (ml + q) cap2).ownBlock = some w8.heap.size) → MovedE 32 [gh, g2, ev] w (W2.setCell ⟨p, 2, none⟩ (.slice ao2 (ml + q) cap2)) p K { (t.setRep k gl) with mails := t.mails ++ gm.take q }) := fun W2 ao2 cap2 ho hg ha => by
          have hlen : (t.mails ++ gm.take q).length = ml + q := by rw [List.length_append, List.length_take, ← HML.out]; omega
          have := HMV.out _ _ (HM8.out.grewMails odd_out (w0 := W2) (mv' := .slice ao2 (ml + q) cap2) (ms := t.mails ++ gm.take q) (((TouchG.refl w8 _).drew 1).grown hg fun k hk => .inl (by rw [← HML.out]; exact hk)) (by rw [hlen, flatG_append]; exact ho) (fun z hz => by
            rcases List.mem_append.1 hz with hz | hz
            · exact HH.out.small z hz
            · exact HMS.out z (List.mem_of_mem_take hz)) (fun g hg hb => by
            rcases ha with e | e
            · rw [← HML.out]; exact e ▸ hb
            · rw [hb] at e
              simp only [Option.some.injEq] at e
              omega))
          rw [HYD.out] at this
          exact this
        rw [← HML.out] at c2 HOW HNP HC8
        have HZ1 : Hid (ml + q ≤ maxLen) := (by unfold maxLen; omega : ml + q ≤ maxLen)
        have HZ2 : Hid ((ml + q) * 48 ≤ 140737488355328) := (by omega : (ml + q) * 48 ≤ 140737488355328)
        clear hkl HR HR8 hq0 hq1 hrc hml hm hm0 hn4 hfew hdone hG hT hn hcap hbl hbg hgb hpg hgp hg0 hk3 hk
        go_wp2_with fail
        go_region_law (first
          | (refine step_append_go rfl (.tmp 72) (.tmp 78) 28 rfl ?_; refine wp_append_any (.tmp 72) (.tmp 78) 28 rfl 92 i0 _ 5 48 Tryz.underlying28 hi0 hz0 hz1 hz2 rfl (by decide) (.slice mo ml mc) ml (flatG mailCells t.mails) (by rfl) HOW.out ro q rc (flatG mailCells (gm.take q)) (by rfl) HN.out.1 HN.out.2.1 HN.out.2.2 (flatG_one mailCells_one _) HZ1.out HZ2.out ?_; intro ao2 cap2 w9 hown2 hg2 hat2; have hq9 := (hg2.block p hpl (fun e => HNP.out e.symm)).trans HC8.out; have HOWN := ghid hown2; have HG2 := ghid hg2; have HAT := ghid hat2; clear hown2 hg2 hat2 c0 c1 c2 c3 c4 c5 cf hpl; obtain ⟨c0, c1, c2, c3, c4, c5, cf, hpl⟩ := six_cells hq9; clear hq9))
        all_goals
          go_wp2
          go_ret
          exact ⟨sret_int (by rw [HRR.out]), by rw [HRR.out]; exact HFIN.out _ _ _ HOWN.out HG2.out HAT.out⟩
      · have hkli : ¬ (k : Int) = t.leader := by omega
        have HRR : Hid (R = (t.setRep k gl, 0)) := by
          unfold Hid
          rw [HR.out, if_neg hkl]
          rfl
        have HF := ghid (HMV.out _ _ (MovedE.same ⟨_, _, _, _, _, _, HM8.out⟩ (Below.refl _ _)))
        clear hkl HR HMV
        go_wp2
        go_ret
        exact ⟨sret_int (by rw [HRR.out]), by rw [HRR.out, ← HYD.out]; exact HF.out⟩

end

end Go.Proofs.YtijilhbdbeajjaaGreatDoor

namespace Go.Proofs.YtijilhbdbeajjaaGreatDoor

open Go.RowKit

theorem mailCells_len' (x : MailD) : (mailCells x).length = 5 := rfl

theorem mail_zero_one : ∀ v ∈ (Builtin.zeroCells (Value.agg #[.int .i64 0, .int .i64 0, .int .i64 0, .int .i64 0, .string ⟨#[]⟩]).cells 1).toList, v.oneCell' = true := by
  intro v hv
  simp only [Builtin.zeroCells, Value.cells, Array.toList_map, List.mem_map, Array.toList_range, List.mem_range] at hv
  obtain ⟨a, ha, rfl⟩ := hv
  have ha' : a < 5 := by simpa using ha
  rcases (by omega : a = 0 ∨ a = 1 ∨ a = 2 ∨ a = 3 ∨ a = 4) with rfl | rfl | rfl | rfl | rfl <;> rfl

set_option maxRecDepth 100000 in
set_option maxHeartbeats 3200000 in
theorem deleteM (g n cp i : Nat) (rs : List MailD) (w : World) (base : Nat) (h : w.ownsRow base 92 5 (.slice (some ⟨g, 0, none⟩) n cp) n (flatG mailCells rs)) (hn : n = rs.length) (hin : i < n) (h5 : n ≤ 60) :
    Calls Tryz.prog 161 #[.slice (some ⟨g, 0, none⟩) n cp, .int .i64 i, .int .i64 ((i : Int) + 1)] w fun e w' => e = .returned (.slice (some ⟨g, 0, none⟩) (n - 1) cp) ∧ w'.ownsRow base 92 5 (.slice (some ⟨g, 0, none⟩) (n - 1) cp) (n - 1) (flatG mailCells (rs.eraseIdx i)) ∧ TouchG w w' (fun b => b = g) := by
  have HO := ghid h
  have hncp : n ≤ cp := by
    rcases h.2 with ⟨e, _⟩ | ⟨_, _, _, e, _, _, hle, _⟩
    · cases e
    · simp only [Value.slice.injEq] at e
      rw [e.2.2]; exact hle
  obtain ⟨i0, hi, hz0, hz1, hz2⟩ := info_parts Tryz.infoMail
  have hrow := h
  have htk := grow_take hrow (by omega : i ≤ n)
  rw [flatG_take mailCells_len'] at htk
  have HTK := ghid htk
  have HL2 : Hid ((flatG mailCells (rs.drop (i + 1))).length = (n - (i + 1)) * 5) := by unfold Hid; rw [flatG_length mailCells_len', List.length_drop, hn]
  have HONE : Hid (∀ v ∈ flatG mailCells (rs.drop (i + 1)), v.oneCell' = true) := flatG_one mailCells_one _
  have HNEW : Hid (∀ j u, (flatG mailCells (rs.drop (i + 1)))[j]? = some u → w.cell? ⟨g, (i + 1) * 5 + j, none⟩ = some u) := by
    intro j u hj
    have hjl := (List.getElem?_eq_some_iff.1 hj).1
    rw [HL2.out] at hjl
    rw [hrow.cellAt ((i + 1) * 5 + j) (by have : (i + 1) * 5 + (n - (i + 1)) * 5 = n * 5 := by rw [← Nat.add_mul]; congr 1; omega
                                          omega)]
    rw [← flatG_drop mailCells_len' rs (i + 1) (by omega), List.getElem?_drop] at hj
    exact hj
  have HER : Hid (rs.take i ++ rs.drop (i + 1) = rs.eraseIdx i) := by unfold Hid; rw [List.eraseIdx_eq_take_drop_succ]
  have HEL : Hid ((rs.eraseIdx i).length = n - 1) := by unfold Hid; rw [List.length_eraseIdx, if_pos (by omega), hn]
  have hq1 : (0 : Int) ≤ (i : Int) + 1 := by omega
  have hq2 : (i : Int) + 1 ≤ n := by omega
  have hq3 : ((i : Int) == (i : Int) + 1) = false := by simpa using (show ¬ (i : Int) = (i : Int) + 1 by omega)
  have hto : ((i : Int) + 1).toNat = i + 1 := by omega
  have HN := ghid hn
  clear h hrow htk hn
  by_cases hl : i + 1 = n
  · subst hl
    have hni : ¬ i + 1 = i := by omega
    have hq4 : (i : Int) ≤ (i : Int) + 1 := by omega
    have hq5 : i ≤ i + 1 := by omega
    have HD0 : Hid (rs.drop (i + 1) = []) := by unfold Hid; exact List.drop_of_length_le (by rw [← HN.out]; exact Nat.le_refl _)
    by_cases hcp : cp = i + 1
    · have hce := ghid hcp
      subst hcp
      go_enter Tryz.func161, Tryz.ntmps161
      go_wp2_with fail
      go_region_law (refine gstep_append_room rfl (.tmp 22) (.tmp 25) 28 rfl base 92 i0 5 Tryz.underlying28 hi hz1 g i (i + 1) (flatG mailCells (rs.take i)) (by simp [Act.eval, Act.put]) HTK.out ⟨g, 0, none⟩ 0 0 [] (by simp [Act.eval, Act.put]) rfl (by intro j u hj; simp at hj) (by intro u hu; simp at hu) (by omega) ?_; intro w1 hown1 hg1)
      have hb1 : w1.heap.size ≥ w.heap.size := hg1.size
      obtain ⟨cur, hcur, hcs⟩ : ∃ cur, w1.heap[g]? = some (.cells cur 92 (0, 0)) ∧ cur.size = (i + 1) * 5 := by
        rcases hown1.2 with ⟨h', _⟩ | ⟨g', cap', cur', h', _, hh, _, _, hcs', _⟩
        · cases h'
        · simp only [Value.slice.injEq, Option.some.injEq, Addr.mk.injEq, and_true, true_and] at h'
          obtain ⟨rfl, rfl⟩ := h'
          exact ⟨cur', hh, hcs'⟩
      obtain ⟨zs, hzl, hcl⟩ := run_clear_wide (P := Tryz.prog) w1 28 92 i0 _ Tryz.underlying28 hi hz0 mail_zero_one (by simp [Value.cells]) g ((i) * 5) 1 1 cur _ (by omega) hcur (by simp [Value.cells]; omega)
      obtain ⟨Wf, hWf⟩ : ∃ Wf, Wf = w1.setRow g (cur.toList.take ((i) * 5) ++ zs ++ cur.toList.drop ((i) * 5 + zs.length)).toArray := ⟨_, rfl⟩
      rw [← hWf] at hcl
      have hT1 : TouchG w w1 (fun b => b = g) := ⟨hg1.os, hg1.tape, hg1.output, hg1.size, fun k hk hs => hg1.block k hk (fun e => hs (by simpa using e))⟩
      have HT : Hid (TouchG w Wf (fun b => b = g)) := by unfold Hid; rw [hWf]; exact hT1.setRow (g := g) rfl _
      have HF : Hid (Wf.ownsRow base 92 5 (.slice (some ⟨g, 0, none⟩) i (i + 1)) i (flatG mailCells (rs.eraseIdx i))) := by
        unfold Hid
        rw [← HER.out, flatG_append, hWf]
        exact (by rw [HD0.out, flatG_nil, List.append_nil]; exact grow_behind (by simpa using hown1) hcur (by simp [Value.cells] at hzl; omega))
      clear hown1 hg1 hcur hWf hT1 hi hz0 hz1 hz2
      go_wp2
      go_ret
      exact ⟨rfl, HF.out, HT.out⟩
    · have hcp2 : ¬ i + 1 = cp := fun e => hcp e.symm
      have hcp3 : ¬ cp = i := by omega
      have hx1 : (i : Int) ≤ cp := by omega
      have hx2 : (i : Int) + 1 ≤ cp := by omega
      have hx3 : i ≤ cp := by omega
      go_enter Tryz.func161, Tryz.ntmps161
      go_wp2_with fail
      go_region_law (refine gstep_append_room rfl (.tmp 22) (.tmp 25) 28 rfl base 92 i0 5 Tryz.underlying28 hi hz1 g i cp (flatG mailCells (rs.take i)) (by simp [Act.eval, Act.put]) HTK.out ⟨g, (i + 1) * 5, none⟩ 0 (cp - (i + 1)) [] (by simp [Act.eval, Act.put]) rfl (by intro j u hj; simp at hj) (by intro u hu; simp at hu) (by omega) ?_; intro w1 hown1 hg1)
      have hb1 : w1.heap.size ≥ w.heap.size := hg1.size
      obtain ⟨cur, hcur, hcs⟩ : ∃ cur, w1.heap[g]? = some (.cells cur 92 (0, 0)) ∧ cur.size = cp * 5 := by
        rcases hown1.2 with ⟨h', _⟩ | ⟨g', cap', cur', h', _, hh, _, _, hcs', _⟩
        · cases h'
        · simp only [Value.slice.injEq, Option.some.injEq, Addr.mk.injEq, and_true, true_and] at h'
          obtain ⟨rfl, rfl⟩ := h'
          exact ⟨cur', hh, hcs'⟩
      obtain ⟨zs, hzl, hcl⟩ := run_clear_wide (P := Tryz.prog) w1 28 92 i0 _ Tryz.underlying28 hi hz0 mail_zero_one (by simp [Value.cells]) g ((i) * 5) 1 (cp - i) cur _ (by omega) hcur (by simp [Value.cells]; omega)
      obtain ⟨Wf, hWf⟩ : ∃ Wf, Wf = w1.setRow g (cur.toList.take ((i) * 5) ++ zs ++ cur.toList.drop ((i) * 5 + zs.length)).toArray := ⟨_, rfl⟩
      rw [← hWf] at hcl
      have hT1 : TouchG w w1 (fun b => b = g) := ⟨hg1.os, hg1.tape, hg1.output, hg1.size, fun k hk hs => hg1.block k hk (fun e => hs (by simpa using e))⟩
      have HT : Hid (TouchG w Wf (fun b => b = g)) := by unfold Hid; rw [hWf]; exact hT1.setRow (g := g) rfl _
      have HF : Hid (Wf.ownsRow base 92 5 (.slice (some ⟨g, 0, none⟩) i cp) i (flatG mailCells (rs.eraseIdx i))) := by
        unfold Hid
        rw [← HER.out, flatG_append, hWf]
        exact (by rw [HD0.out, flatG_nil, List.append_nil]; exact grow_behind (by simpa using hown1) hcur (by simp [Value.cells] at hzl; omega))
      clear hown1 hg1 hcur hWf hT1 hi hz0 hz1 hz2
      go_wp2
      go_ret
      exact ⟨rfl, HF.out, HT.out⟩
  · obtain ⟨m, rfl⟩ : ∃ m, n = m + 1 := ⟨n - 1, by omega⟩
    have hni : ¬ m + 1 = i := by omega
    have hnj : ¬ m + 1 = i + 1 := by omega
    have hnj2 : ¬ m = i := by omega
    have hq5 : i ≤ m + 1 := by omega
    have hq6 : i + 1 ≤ m + 1 := by omega
    have hq7 : i ≤ m := by omega
    have hq8 : (i : Int) ≤ (m : Int) + 1 := by omega
    have hq9 : (m : Int) ≤ (m : Int) + 1 := by omega
    have hx1 : (i : Int) ≤ cp := by omega
    have hx2 : (i : Int) + 1 ≤ cp := by omega
    have hx3 : i ≤ cp := by omega
    have hx4 : (m : Int) + 1 ≤ cp := by omega
    have hx5 : ¬ cp = i + 1 := by omega
    have hx6 : ¬ cp = m := by omega
    have hx7 : ¬ cp = i := by omega
    have hx8 : (m : Int) ≤ cp := by omega
    have hx9 : m ≤ cp := by omega
    go_enter Tryz.func161, Tryz.ntmps161
    go_wp2_with fail
    go_region_law (refine gstep_append_room rfl (.tmp 22) (.tmp 25) 28 rfl base 92 i0 5 Tryz.underlying28 hi hz1 g i cp (flatG mailCells (rs.take i)) (by simp [Act.eval, Act.put]) HTK.out ⟨g, (i + 1) * 5, none⟩ (m + 1 - (i + 1)) (cp - (i + 1)) (flatG mailCells (rs.drop (i + 1))) (by simp [Act.eval, Act.put]) HL2.out (by intro j u hj; rw [gadd]; exact HNEW.out j u hj) HONE.out (by omega) ?_; intro w1 hown1 hg1)
    have hbeh : i + (m + 1 - (i + 1)) = m := by omega
    have hbeh2 : i + (m - i) = m := by omega
    rw [hbeh] at hown1
    try rw [hbeh]
    try rw [hbeh2]
    clear hbeh hbeh2
    have hb1 : w1.heap.size ≥ w.heap.size := hg1.size
    obtain ⟨cur, hcur, hcs⟩ : ∃ cur, w1.heap[g]? = some (.cells cur 92 (0, 0)) ∧ cur.size = cp * 5 := by
      rcases hown1.2 with ⟨h', _⟩ | ⟨g', cap', cur', h', _, hh, _, _, hcs', _⟩
      · cases h'
      · simp only [Value.slice.injEq, Option.some.injEq, Addr.mk.injEq, and_true, true_and] at h'
        obtain ⟨rfl, rfl⟩ := h'
        exact ⟨cur', hh, hcs'⟩
    obtain ⟨zs, hzl, hcl⟩ := run_clear_wide (P := Tryz.prog) w1 28 92 i0 _ Tryz.underlying28 hi hz0 mail_zero_one (by simp [Value.cells]) g (m * 5) 1 (cp - m) cur _ (by omega) hcur (by simp [Value.cells]; omega)
    obtain ⟨Wf, hWf⟩ : ∃ Wf, Wf = w1.setRow g (cur.toList.take (m * 5) ++ zs ++ cur.toList.drop (m * 5 + zs.length)).toArray := ⟨_, rfl⟩
    rw [← hWf] at hcl
    have hT1 : TouchG w w1 (fun b => b = g) := ⟨hg1.os, hg1.tape, hg1.output, hg1.size, fun k hk hs => hg1.block k hk (fun e => hs (by simpa using e))⟩
    have HT : Hid (TouchG w Wf (fun b => b = g)) := by unfold Hid; rw [hWf]; exact hT1.setRow (g := g) rfl _
    have HF : Hid (Wf.ownsRow base 92 5 (.slice (some ⟨g, 0, none⟩) m cp) m (flatG mailCells (rs.eraseIdx i))) := by
      unfold Hid
      rw [← HER.out, flatG_append, hWf]
      exact (by have := grow_behind hown1 hcur (zs := zs) (by simp [Value.cells] at hzl; omega); simpa using this)
    clear hown1 hg1 hcur hWf hT1 hi hz0 hz1 hz2
    go_wp2
    go_ret
    exact ⟨rfl, HF.out, HT.out⟩

end Go.Proofs.YtijilhbdbeajjaaGreatDoor
