/- customer.Request. (Written by gen_req.py.); tackroomkeep.picked: a number from 0 to many - 1 (joined by program) -/
import Derived.Deep.RegionHeld3
import Derived.Test.YtcjoekjjebcomalDoorRows
import Derived.WalkKit
import Derived.ProofKit
import Derived.WalkLawsBesides
import Derived.Test.YtcjoekjjebcomalDoorCA20
import Derived.Test.YtcjoekjjebcomalDoorCA12
namespace Go.Proofs.YtcjoekjjebcomalDoor

open Go.RowKit

theorem callR_of {id se q kn k n : Int} {a b : ByteArray} (h1 : 1 ≤ id ∧ id ≤ 9) (h2 : 1 ≤ se ∧ se ≤ 1073741824) (h3 : 1 ≤ q ∧ q ≤ 1048576) (h4 : 0 ≤ kn ∧ kn ≤ q - 1) : cmdE 2 id se q kn k a b n = opE k a b n := by
  unfold cmdE
  rw [if_neg (by omega), if_neg (by omega), if_pos rfl, if_pos ⟨h2, h3, h4⟩]

/-- What a client that may be asks may be. -/
theorem asked_ok {c : CustD} {k : Nat} {x : WaitD} (hc : checkC c = 0) (hx : c.waits[k]? = some x) : cmdE 2 c.id c.session x.seq (knownC c) x.kind x.a x.b x.n = 0 := by
  have G := GoodC.of hc
  have hm := List.mem_of_getElem? hx
  obtain ⟨h1, h2, h3, h4⟩ := G.each x hm
  have hs := G.session
  have hn := G.next
  have hp : 0 < c.waits.length := List.length_pos_of_mem hm
  have he := G.held hp
  have hk := G.known
  have hf : knownC c ≤ x.seq - 1 := by
    have ho := G.order
    unfold knownC
    split
    · rename_i e
      rw [e] at hm
      cases hm
    · rename_i y r e
      rw [e] at hm ho
      rcases List.mem_cons.1 hm with rfl | hm
      · omega
      · cases ho with
        | cons h1 h2 => have := h1 x hm; omega
  rw [callR_of G.id (by omega) (by omega) (by omega)]
  exact h4

set_option maxRecDepth 100000 in
set_option maxHeartbeats 3200000 in
theorem Request_ok (v : Value) (c : CustD) (k : Nat) (x : WaitD) (w : World) (B : Nat) (hv : CustR w B v c) (hB : B ≤ w.heap.size) (hc : checkC c = 0) (hx : c.waits[k]? = some x) :
    Calls Tryd.prog 10 #[v, .int .i64 (k : Int)] w fun e w' => e = .returned (.tuple #[.string (strOfNums [2, c.id] ++ tailOut c.session x.seq (knownC c) x.kind x.a x.b x.n), .int .i64 0]) ∧ Below w.heap.size w w' := by
  have C1 := ghid (fun u (hu : Below w.heap.size w u) => custCheck_any v c u B (hv.below hu hB) (by have := hu.size; omega))
  have CK := ghid (fun u (hu : Below w.heap.size w u) => known_any v c u B (hv.below hu hB) (by have := hu.size; omega) (GoodC.of hc).next (GoodC.of hc).seqs)
  have hok := asked_ok hc hx
  have hlen := (GoodC.of hc).len
  have hk : k < c.waits.length := (List.getElem?_eq_some_iff.1 hx).1
  rw [hc] at C1
  obtain ⟨ao, cap, rfl, hw⟩ := hv.shape
  obtain ⟨ao', cap', he, hcap0, -, -, h4⟩ := id hw
  simp only [Value.slice.injEq] at he
  obtain ⟨rfl, -, rfl⟩ := he
  obtain ⟨b, off, rfl, hbB, hcs⟩ := h4 (by omega)
  obtain ⟨b0, b1, b2, b3, b4, hs1, hs2, -⟩ := hcs k x hx
  have hq : FitsC x.seq := by have h1 := (GoodC.of hc).seqs x (List.mem_of_getElem? hx); unfold FitsC; omega
  have CE := ghid (fun u => encode_call c.id c.session x.seq (knownC c) x.kind x.a x.b x.n u hq hs1 hs2 hok)
  obtain ⟨id, hid⟩ : ∃ z, z = c.id := ⟨_, rfl⟩
  obtain ⟨se, hse⟩ : ∃ z, z = c.session := ⟨_, rfl⟩
  obtain ⟨nx, hnx⟩ : ∃ z, z = c.next := ⟨_, rfl⟩
  obtain ⟨m, hm⟩ : ∃ z, z = c.waits.length := ⟨_, rfl⟩
  obtain ⟨kn, hkn⟩ : ∃ z, z = knownC c := ⟨_, rfl⟩
  obtain ⟨q, xk, xa, xb, xn⟩ := x
  simp only at b0 b1 b2 b3 b4 hs1 hs2 CE ⊢
  rw [← hid, ← hse, ← hnx, ← hm] at C1 CK
  rw [← hkn] at CK
  rw [← hid, ← hse, ← hkn] at CE
  rw [← hm] at hlen hk
  rw [← hid, ← hse, ← hnx, ← hm, ← hkn]
  obtain ⟨out, hout⟩ : ∃ z, z = strOfNums [2, id] ++ tailOut se q kn xk xa xb xn := ⟨_, rfl⟩
  rw [← hout] at CE ⊢
  have C2 := ghid (fun u => cu_yes (k : Int) 0 ((m : Int) - 1) u (by omega))
  have HB0 : Hid (Below w.heap.size w (w.alloc (.cells #[.int .i64 id, .int .i64 se, .int .i64 nx, .slice (some ⟨b, off, none⟩) m cap] 25))) := (Below.refl _ _).alloc (Nat.le_refl _) _
  have HX0 := ghid (heap_alloc_new w (.cells #[.int .i64 id, .int .i64 se, .int .i64 nx, .slice (some ⟨b, off, none⟩) m cap] 25))
  have HW : Hid (∀ u, Below w.heap.size w u → u.cell? ⟨b, off + k * 5, none⟩ = some (.int .i64 q) ∧ u.cell? ⟨b, off + k * 5 + 1, none⟩ = some (.int .i64 xk) ∧ u.cell? ⟨b, off + k * 5 + 2, none⟩ = some (.string xa) ∧ u.cell? ⟨b, off + k * 5 + 3, none⟩ = some (.string xb) ∧ u.cell? ⟨b, off + k * 5 + 4, none⟩ = some (.int .i64 xn)) := fun u hu => by
    have kk : ∀ j, u.cell? ⟨b, j, none⟩ = w.cell? ⟨b, j, none⟩ := fun j => hu.cell (p := ⟨b, j, none⟩) (by show b < _; omega)
    exact ⟨(kk _).trans b0, (kk _).trans b1, (kk _).trans b2, (kk _).trans b3, (kk _).trans b4⟩
  have hmw : IntKind.i64.wrap ((m : Int) - 1) = (m : Int) - 1 := by rw [IntKind.wrap_i64]; omega
  have hki : (k : Int) < (m : Int) := by omega
  have hbw : b < w.heap.size := by omega
  clear hv hw hc hx h4 hcs hok hid hse hnx hm hkn hout hq b0 b1 b2 b3 b4 hcap0
  go_enter Tryd.func10, Tryd.ntmps10
  go_wp2_with fail
  refine (C1.out _ HB0.out).mono ?_
  rintro e w1 ⟨rfl, hb1⟩
  have HB1 := ghid (HB0.out.trans (hb1.mono HB0.out.size))
  have HX1 := ghid (behind HX0.out (Below.refl _ _) hb1)
  obtain ⟨c0, c1, c2, c3, cf, cl⟩ := state_cells HX1.out
  clear hb1
  obtain ⟨b0, b1, b2, b3, b4⟩ := HW.out _ HB1.out
  go_wp2_with fail
  refine (C2.out _).mono ?_
  rintro e w2 ⟨rfl, rfl⟩
  have hwz : Below w2.heap.size w2 (w2.alloc (.cells #[.int .i64 q, .int .i64 xk, .string xa, .string xb, .int .i64 xn] 55)).drew := ((Below.refl _ _).alloc (Nat.le_refl _) _).drew
  have HB2 := ghid (HB1.out.trans (hwz.mono HB1.out.size))
  have HX2 : Hid ((w2.alloc (.cells #[.int .i64 q, .int .i64 xk, .string xa, .string xb, .int .i64 xn] 55)).drew.heap[w.heap.size]? = _) := behind HX1.out (Below.refl _ _) hwz
  have HY2 : Hid ((w2.alloc (.cells #[.int .i64 q, .int .i64 xk, .string xa, .string xb, .int .i64 xn] 55)).drew.heap[w2.heap.size]? = some (.cells #[.int .i64 q, .int .i64 xk, .string xa, .string xb, .int .i64 xn] 55 (0, 0))) := heap_alloc_new w2 _
  clear hwz
  go_wp2_with fail
  clear c0 c1 c2 c3 cf cl b0 b1 b2 b3 b4
  obtain ⟨c0, c1, c2, c3, cf, cl⟩ := state_cells HX2.out
  obtain ⟨y0, y1, y2, y3, y4, yf, yl⟩ := five_cells HY2.out
  go_region_held3 (fun w' => w'.cell? ⟨w.heap.size, 0, none⟩ = some (.int .i64 id) ∧ w'.cell? ⟨w.heap.size, 1, none⟩ = some (.int .i64 se) ∧ w'.cell? ⟨w.heap.size, 2, none⟩ = some (.int .i64 nx) ∧ w'.cell? ⟨w.heap.size, 3, none⟩ = some (.slice (some ⟨b, off, none⟩) m cap) ∧ w'.cell? ⟨w2.heap.size, 0, none⟩ = some (.int .i64 q) ∧ w'.cell? ⟨w2.heap.size, 1, none⟩ = some (.int .i64 xk) ∧ w'.cell? ⟨w2.heap.size, 2, none⟩ = some (.string xa) ∧ w'.cell? ⟨w2.heap.size, 3, none⟩ = some (.string xb) ∧ w'.cell? ⟨w2.heap.size, 4, none⟩ = some (.int .i64 xn)) (go_keep)
    (first
      | (go_at_call 23; refine (CK.out _ HB2.out).mono ?_; rintro e w3 ⟨rfl, hb3⟩; have HB3 := ghid (HB2.out.trans (hb3.mono HB2.out.size)); have HX3 := ghid (behind HX2.out (Below.refl _ _) hb3); have HY3 := ghid (behind HY2.out (Below.refl _ _) hb3); clear hb3 c0 c1 c2 c3 cf cl y0 y1 y2 y3 y4 yf yl; obtain ⟨c0, c1, c2, c3, cf, cl⟩ := state_cells HX3.out; obtain ⟨y0, y1, y2, y3, y4, yf, yl⟩ := five_cells HY3.out)
      | (go_at_call 17; refine (CE.out _).mono ?_; rintro e w4 ⟨rfl, hb4⟩; have HB4 := ghid (HB3.out.trans (hb4.mono HB3.out.size)); have hx4 := behind HX3.out (Below.refl _ _) hb4; have hy4 := behind HY3.out (Below.refl _ _) hb4; clear hb4 c0 c1 c2 c3 cf cl y0 y1 y2 y3 y4 yf yl; obtain ⟨c0, c1, c2, c3, cf, cl⟩ := state_cells hx4; obtain ⟨y0, y1, y2, y3, y4, yf, yl⟩ := five_cells hy4))
  all_goals
    go_wp2
    refine bodyPost_ret (v := .tuple #[.string out, .int .i64 0]) (by simp [results, Tryd.results10, go_sem]) rfl ?_
    exact ⟨rfl, HB4.out⟩

end Go.Proofs.YtcjoekjjebcomalDoor

namespace Go.Proofs.YtcjoekjjebcomalDoor

open Go.RowKit

/-- What picked answers. -/
def pickZ (n m : Int) : Int := if n < 0 then (-(n + 1)) % m else n % m

theorem pickZ_bd (n m : Int) (h : 0 < m) : 0 ≤ pickZ n m ∧ pickZ n m < m := by
  unfold pickZ
  split
  · exact ⟨Int.emod_nonneg _ (by omega), Int.emod_lt_of_pos _ h⟩
  · exact ⟨Int.emod_nonneg _ (by omega), Int.emod_lt_of_pos _ h⟩

theorem pick_neg (n m : Int) (h : n < 0) : -((n + 1).tmod m) = pickZ n m := by
  have e : n + 1 = -(-(n + 1)) := by omega
  unfold pickZ
  rw [if_pos h]
  conv => lhs; rw [e, Int.neg_tmod, Int.tmod_eq_emod_of_nonneg (by omega)]
  omega

theorem pick_pos (n m : Int) (h : ¬ n < 0) : n % m = pickZ n m := by unfold pickZ; rw [if_neg h]

theorem picked_any (n m : Int) (w : World) (h1 : -9223372036854775808 ≤ n) (h2 : n ≤ 9223372036854775807) (h3 : 0 < m) (h4 : m ≤ 9223372036854775807) :
    Calls Tryd.prog 5 #[.int .i64 n, .int .i64 m] w fun e w' => e = .returned (.int .i64 (pickZ n m)) ∧ w' = w := by
  by_cases h : n < 0
  · have H : Hid (-((n + 1).tmod m) = pickZ n m) := pick_neg n m h
    go_enter Tryd.func5, Tryd.ntmps5
    go_wp2
    go_ret
    exact ⟨by rw [← H.out]; rfl, rfl⟩
  · have H : Hid (n % m = pickZ n m) := pick_pos n m h
    go_enter Tryd.func5, Tryd.ntmps5
    go_wp2
    go_ret
    exact ⟨by rw [← H.out]; rfl, rfl⟩

end Go.Proofs.YtcjoekjjebcomalDoor
