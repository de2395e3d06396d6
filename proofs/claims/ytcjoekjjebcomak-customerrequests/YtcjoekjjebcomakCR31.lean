/- The document's RequestOf. (Written by gen_req.py.) (joined by program) -/
import Derived.Test.YtcjoekjjebcomakCR24
import Derived.Test.YtcjoekjjebcomakCR27
import Derived.Test.YtcjoekjjebcomakCR30
namespace Go.Proofs.Ytcjoekjjebcomak

open Go.RowKit

set_option maxRecDepth 100000 in
set_option maxHeartbeats 1600000 in
theorem requestOf_bad (v : Value) (c : CustD) (k : Int) (w : World) (B : Nat) (hv : CustR w B v c) (hB : B ≤ w.heap.size) (hr : requestE c k ≠ 0) :
    Calls Try.prog 21 #[v, .int .i64 k] w fun e w' => e = .returned (.tuple #[.string ⟨#[]⟩, .int .i64 (requestE c k)]) ∧ Below w.heap.size w w' := by
  have C1 := ghid (fun u (hu : Below w.heap.size w u) => customerFault_any v c u B (hv.below hu hB) (by have := hu.size; omega))
  have HRQ : Hid (requestE c k = if checkC c ≠ 0 then checkC c else if ¬ (0 ≤ k ∧ k ≤ (c.waits.length : Int) - 1) then 6 else 0) := rfl
  have hlen : c.waits.length * 56 ≤ 140737488351232 := by
    obtain ⟨wv, -, h⟩ := hv
    exact h.len
  obtain ⟨ao, cap, rfl, -⟩ := hv.shape
  obtain ⟨cc, hcc⟩ : ∃ z, z = checkC c := ⟨_, rfl⟩
  obtain ⟨r, hre⟩ : ∃ z, z = requestE c k := ⟨_, rfl⟩
  obtain ⟨id, hid⟩ : ∃ z, z = c.id := ⟨_, rfl⟩
  obtain ⟨se, hse⟩ : ∃ z, z = c.session := ⟨_, rfl⟩
  obtain ⟨nx, hnx⟩ : ∃ z, z = c.next := ⟨_, rfl⟩
  obtain ⟨m, hm⟩ : ∃ z, z = c.waits.length := ⟨_, rfl⟩
  rw [← hcc, ← hid, ← hse, ← hnx, ← hm] at C1
  rw [← hcc, ← hm, ← hre] at HRQ
  rw [← hm] at hlen
  rw [← hre] at hr
  rw [← hre, ← hid, ← hse, ← hnx, ← hm]
  have HB0 : Hid (Below w.heap.size w (w.alloc (.cells #[.int .i64 id, .int .i64 se, .int .i64 nx, .slice ao m cap] 24))) := (Below.refl _ _).alloc (Nat.le_refl _) _
  have HX0 := ghid (heap_alloc_new w (.cells #[.int .i64 id, .int .i64 se, .int .i64 nx, .slice ao m cap] 24))
  clear hv hcc hre hid hse hnx hm
  by_cases h1 : cc = 0
  · subst h1
    have h2 : ¬ (0 ≤ k ∧ k ≤ (m : Int) - 1) := fun e => hr (by rw [HRQ.out, if_neg (by simp), if_neg (fun h => h e)])
    have HE : Hid (r = 6) := by unfold Hid; rw [HRQ.out, if_neg (by simp), if_pos h2]
    have C2 := ghid (fun u => cin_no k 0 ((m : Int) - 1) u h2)
    have hmw : IntKind.i64.wrap ((m : Int) - 1) = (m : Int) - 1 := by rw [IntKind.wrap_i64]; omega
    clear h2 hr HRQ
    go_enter Try.func21, Try.ntmps21
    go_wp2_with fail
    refine (C1.out _ HB0.out).mono ?_
    rintro e w1 ⟨rfl, hb1⟩
    have HB1 := ghid (HB0.out.trans (hb1.mono HB0.out.size))
    have HX1 := ghid (behind HX0.out (Below.refl _ _) hb1)
    obtain ⟨c0, c1, c2, c3, cf, cl⟩ := state_cells HX1.out
    clear hb1
    go_wp2_with fail
    refine (C2.out _).mono ?_
    rintro e w2 ⟨rfl, rfl⟩
    go_wp2
    refine bodyPost_ret (v := .tuple #[.string ⟨#[]⟩, .int .i64 r]) (by simp [results, Try.results21, go_sem, HE.out]) rfl ?_
    exact ⟨rfl, HB1.out⟩
  · have hcb : (cc != 0) = true := by simpa using h1
    have hcd : (cc == 0) = false := by simpa using h1
    have HE : Hid (r = cc) := by unfold Hid; rw [HRQ.out, if_pos h1]
    clear h1 hr HRQ
    go_enter Try.func21, Try.ntmps21
    go_wp2_with fail
    refine (C1.out _ HB0.out).mono ?_
    rintro e w1 ⟨rfl, hb1⟩
    have HB1 := ghid (HB0.out.trans (hb1.mono HB0.out.size))
    have HX1 := ghid (behind HX0.out (Below.refl _ _) hb1)
    obtain ⟨c0, c1, c2, c3, cf, cl⟩ := state_cells HX1.out
    clear hb1
    go_wp2
    refine bodyPost_ret (v := .tuple #[.string ⟨#[]⟩, .int .i64 r]) (by simp [results, Try.results21, go_sem, HE.out]) rfl ?_
    exact ⟨rfl, HB1.out⟩

set_option maxRecDepth 100000 in
set_option maxHeartbeats 3200000 in
theorem requestOf_ok (v : Value) (c : CustD) (k : Nat) (x : WaitD) (w : World) (B : Nat) (hv : CustR w B v c) (hB : B ≤ w.heap.size) (hc : checkC c = 0) (hx : c.waits[k]? = some x) :
    Calls Try.prog 21 #[v, .int .i64 (k : Int)] w fun e w' => e = .returned (.tuple #[.string (strOfNums [2, c.id] ++ tailOut c.session x.seq (knownC c) x.kind x.a x.b x.n), .int .i64 0]) ∧ Below w.heap.size w w' := by
  have C1 := ghid (fun u (hu : Below w.heap.size w u) => customerFault_any v c u B (hv.below hu hB) (by have := hu.size; omega))
  have CK := ghid (fun u (hu : Below w.heap.size w u) => knownOf_any v c u B (hv.below hu hB) (by have := hu.size; omega) (GoodC.of hc).next (GoodC.of hc).seqs)
  have hok := asked_ok hc hx
  have hlen := (GoodC.of hc).len
  have hk : k < c.waits.length := (List.getElem?_eq_some_iff.1 hx).1
  rw [hc] at C1
  obtain ⟨ao, cap, rfl, hw⟩ := hv.shape
  obtain ⟨ao', cap', he, hcap0, -, -, h4⟩ := id hw
  simp only [Value.slice.injEq] at he
  obtain ⟨rfl, -, rfl⟩ := he
  obtain ⟨b, off, rfl, hbB, hcs⟩ := h4 (by omega)
  obtain ⟨b0, b1, b2, b3, b4, hs1, hs2, -⟩ := hcs k x hx
  have hq : FitsC x.seq := by have h1 := (GoodC.of hc).seqs x (List.mem_of_getElem? hx); unfold FitsC; omega
  have CE := ghid (fun u => cmdBytes_call c.id c.session x.seq (knownC c) x.kind x.a x.b x.n u hq hs1 hs2 hok)
  obtain ⟨id, hid⟩ : ∃ z, z = c.id := ⟨_, rfl⟩
  obtain ⟨se, hse⟩ : ∃ z, z = c.session := ⟨_, rfl⟩
  obtain ⟨nx, hnx⟩ : ∃ z, z = c.next := ⟨_, rfl⟩
  obtain ⟨m, hm⟩ : ∃ z, z = c.waits.length := ⟨_, rfl⟩
  obtain ⟨kn, hkn⟩ : ∃ z, z = knownC c := ⟨_, rfl⟩
  obtain ⟨q, xk, xa, xb, xn⟩ := x
  simp only at b0 b1 b2 b3 b4 hs1 hs2 CE ⊢
  rw [← hid, ← hse, ← hnx, ← hm] at C1 CK
  rw [← hkn] at CK
  rw [← hid, ← hse, ← hkn] at CE
  rw [← hm] at hlen hk
  rw [← hid, ← hse, ← hnx, ← hm, ← hkn]
  obtain ⟨out, hout⟩ : ∃ z, z = strOfNums [2, id] ++ tailOut se q kn xk xa xb xn := ⟨_, rfl⟩
  rw [← hout] at CE ⊢
  have C2 := ghid (fun u => in_yes (k : Int) 0 ((m : Int) - 1) u (by omega) (by omega))
  have HB0 : Hid (Below w.heap.size w (w.alloc (.cells #[.int .i64 id, .int .i64 se, .int .i64 nx, .slice (some ⟨b, off, none⟩) m cap] 24))) := (Below.refl _ _).alloc (Nat.le_refl _) _
  have HX0 := ghid (heap_alloc_new w (.cells #[.int .i64 id, .int .i64 se, .int .i64 nx, .slice (some ⟨b, off, none⟩) m cap] 24))
  have HW : Hid (∀ u, Below w.heap.size w u → u.cell? ⟨b, off + k * 5, none⟩ = some (.int .i64 q) ∧ u.cell? ⟨b, off + k * 5 + 1, none⟩ = some (.int .i64 xk) ∧ u.cell? ⟨b, off + k * 5 + 2, none⟩ = some (.string xa) ∧ u.cell? ⟨b, off + k * 5 + 3, none⟩ = some (.string xb) ∧ u.cell? ⟨b, off + k * 5 + 4, none⟩ = some (.int .i64 xn)) := fun u hu => by
    have kk : ∀ j, u.cell? ⟨b, j, none⟩ = w.cell? ⟨b, j, none⟩ := fun j => hu.cell (p := ⟨b, j, none⟩) (by show b < _; omega)
    exact ⟨(kk _).trans b0, (kk _).trans b1, (kk _).trans b2, (kk _).trans b3, (kk _).trans b4⟩
  have hmw : IntKind.i64.wrap ((m : Int) - 1) = (m : Int) - 1 := by rw [IntKind.wrap_i64]; omega
  have hki : (k : Int) < (m : Int) := by omega
  have hbw : b < w.heap.size := by omega
  clear hv hw hc hx h4 hcs hok hid hse hnx hm hkn hout hq b0 b1 b2 b3 b4 hcap0
  go_enter Try.func21, Try.ntmps21
  go_wp2_with fail
  refine (C1.out _ HB0.out).mono ?_
  rintro e w1 ⟨rfl, hb1⟩
  have HB1 := ghid (HB0.out.trans (hb1.mono HB0.out.size))
  have HX1 := ghid (behind HX0.out (Below.refl _ _) hb1)
  obtain ⟨c0, c1, c2, c3, cf, cl⟩ := state_cells HX1.out
  clear hb1
  obtain ⟨b0, b1, b2, b3, b4⟩ := HW.out _ HB1.out
  go_wp2_with fail
  refine (C2.out _).mono ?_
  rintro e w2 ⟨rfl, rfl⟩
  have HBD := ghid (HB1.out.drew)
  have HXD : Hid (w2.drew.heap[w.heap.size]? = _) := HX1.out
  go_wp2_with fail
  go_region_held3 (fun w' => w'.cell? ⟨w.heap.size, 0, none⟩ = some (.int .i64 id) ∧ w'.cell? ⟨w.heap.size, 1, none⟩ = some (.int .i64 se) ∧ w'.cell? ⟨w.heap.size, 2, none⟩ = some (.int .i64 nx) ∧ w'.cell? ⟨w.heap.size, 3, none⟩ = some (.slice (some ⟨b, off, none⟩) m cap) ∧ w'.cell? ⟨b, off + k * 5, none⟩ = some (.int .i64 q) ∧ w'.cell? ⟨b, off + k * 5 + 1, none⟩ = some (.int .i64 xk) ∧ w'.cell? ⟨b, off + k * 5 + 2, none⟩ = some (.string xa) ∧ w'.cell? ⟨b, off + k * 5 + 3, none⟩ = some (.string xb) ∧ w'.cell? ⟨b, off + k * 5 + 4, none⟩ = some (.int .i64 xn)) (go_keep)
    (first
      | (go_at_call 29; refine (CK.out _ HBD.out).mono ?_; rintro e w3 ⟨rfl, hb3⟩; have HB3 := ghid (HBD.out.trans (hb3.mono HBD.out.size)); have HX3 := ghid (behind HXD.out (Below.refl _ _) hb3); clear hb3 c0 c1 c2 c3 cf cl b0 b1 b2 b3 b4; obtain ⟨c0, c1, c2, c3, cf, cl⟩ := state_cells HX3.out; obtain ⟨b0, b1, b2, b3, b4⟩ := HW.out _ HB3.out)
      | (go_at_call 31; refine (CE.out _).mono ?_; rintro e w4 ⟨rfl, hb4⟩; have HB4 := ghid (HB3.out.trans (hb4.mono HB3.out.size)); have hx4 := behind HX3.out (Below.refl _ _) hb4; clear hb4 c0 c1 c2 c3 cf cl b0 b1 b2 b3 b4; obtain ⟨c0, c1, c2, c3, cf, cl⟩ := state_cells hx4; obtain ⟨b0, b1, b2, b3, b4⟩ := HW.out _ HB4.out))
  all_goals
    go_wp2
    refine bodyPost_ret (v := .tuple #[.string out, .int .i64 0]) (by simp [results, Try.results21, go_sem]) rfl ?_
    exact ⟨rfl, HB4.out⟩

end Go.Proofs.Ytcjoekjjebcomak
