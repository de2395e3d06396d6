/- From the form's reading of an argument to raw numbers as plain data; tackroomkeep.picked: a number from 0 to many - 1 (joined by program) -/
import Derived.Test.YtkmeiilnjkmkiaiDoorRows
import Derived.WalkKit
import Derived.ProofKit
import Derived.WalkLawsBesides
import Derived.Deep.Slices
import Derived.SizedLaws
import Derived.Carry
import Derived.ChangeArms
import Derived.OpenShut
import Derived.Below
namespace Go.Proofs.YtkmeiilnjkmkiaiDoor

open Go.ChangeShapes Go.WideShapes Go.ChangeAt Go.RowKit Go.Deep

set_option maxRecDepth 100000

/-- Raw numbers, as plain data. -/
structure RawD where
  kind : Int
  a : Int
  b : Int
  c : Int

/-- A number that fits. -/
def Fits (n : Int) : Prop := -9223372036854775808 ≤ n ∧ n ≤ 9223372036854775807

/-- The value v reads in w as the raw things xs; its memory lies below block B. -/
def RawsR (w : World) (B : Nat) (v : Value) (xs : List RawD) : Prop :=
  ∃ ao cap, v = .slice ao xs.length cap ∧ xs.length ≤ cap ∧ xs.length * 32 ≤ 140737488351232 ∧ (ao = none → cap = 0) ∧
    (0 < xs.length → ∃ b off, ao = some ⟨b, off, none⟩ ∧ b < B ∧ ∀ (k : Nat) (x : RawD), xs[k]? = some x →
      w.cell? ⟨b, off + k * 4, none⟩ = some (.int .i64 x.kind) ∧ w.cell? ⟨b, off + k * 4 + 1, none⟩ = some (.int .i64 x.a) ∧ w.cell? ⟨b, off + k * 4 + 2, none⟩ = some (.int .i64 x.b) ∧ w.cell? ⟨b, off + k * 4 + 3, none⟩ = some (.int .i64 x.c) ∧ Fits x.kind ∧ Fits x.a ∧ Fits x.b ∧ Fits x.c)

theorem RawsR.below {w w' : World} {B B' : Nat} {v : Value} {xs : List RawD} (h : RawsR w B v xs) (hb : Below B' w w') (hB : B ≤ B') : RawsR w' B v xs := by
  obtain ⟨ao, cap, h0, h1, h2, h3, h4⟩ := h
  refine ⟨ao, cap, h0, h1, h2, h3, fun hp => ?_⟩
  obtain ⟨b, off, e, hlt, hc⟩ := h4 hp
  refine ⟨b, off, e, hlt, fun k x hx => ?_⟩
  obtain ⟨c0, c1, c2, c3, f⟩ := hc k x hx
  have kk : ∀ j, w'.cell? ⟨b, j, none⟩ = w.cell? ⟨b, j, none⟩ := fun j => hb.cell (p := ⟨b, j, none⟩) (by show b < B'; omega)
  exact ⟨(kk _).trans c0, (kk _).trans c1, (kk _).trans c2, (kk _).trans c3, f⟩

theorem RawsR.mono {w : World} {B B' : Nat} {v : Value} {xs : List RawD} (h : RawsR w B v xs) (hB : B ≤ B') : RawsR w B' v xs := by
  obtain ⟨ao, cap, h0, h1, h2, h3, h4⟩ := h
  refine ⟨ao, cap, h0, h1, h2, h3, fun hp => ?_⟩
  obtain ⟨b, off, e, hlt, hc⟩ := h4 hp
  exact ⟨b, off, e, by omega, hc⟩

theorem Tryd.rcellsInt : Tryd.prog.cellsOf 3 = 1 := by kernel_rfl

theorem Tryd.cellsRaw : Tryd.prog.cellsOf 49 = 4 := by kernel_rfl

theorem Tryd.bytesRaw : Tryd.prog.bytesOf 49 = 32 := by kernel_rfl

section

variable {H : Type} {enc : TypeId × Value → H} {W : World}

set_option maxRecDepth 100000 in
theorem open_raw {fuel : Nat} {cs : List Value} {d : DataW H} {p : List MemPlace} (h : DataW.trod enc Tryd.prog W 0 (fun _ => true) true fuel 49 cs = some (d, p)) :
    ∃ (x : RawD), cs = [.int .i64 x.kind, .int .i64 x.a, .int .i64 x.b, .int .i64 x.c] ∧ Fits x.kind ∧ Fits x.a ∧ Fits x.b ∧ Fits x.c := by
  obtain ⟨xs, k, _, hxy, hcl, hxl, hf⟩ := DataW.trod_struct Tryd.underlying49 h
  rw [Tryd.cellsRaw] at hcl
  match xs, hxl, cs, hcl with
  | [y0, y1, y2, y3], _, [v0, v1, v2, v3], _ =>
    have g0 := hf 0 _ rfl
    have g1 := hf 1 _ rfl
    have g2 := hf 2 _ rfl
    have g3 := hf 3 _ rfl
    simp [Tryd.rcellsInt] at g0 g1 g2 g3
    obtain ⟨n0, e0, _, f0⟩ := DataW.trod_int Tryd.underlying3 g0
    obtain ⟨n1, e1, _, f1⟩ := DataW.trod_int Tryd.underlying3 g1
    obtain ⟨n2, e2, _, f2⟩ := DataW.trod_int Tryd.underlying3 g2
    obtain ⟨n3, e3, _, f3⟩ := DataW.trod_int Tryd.underlying3 g3
    simp only [List.cons.injEq, and_true] at e0 e1 e2 e3
    subst e0 e1 e2 e3
    exact ⟨⟨n0, n1, n2, n3⟩, rfl, bounds_i64 f0, bounds_i64 f1, bounds_i64 f2, bounds_i64 f3⟩

set_option maxRecDepth 100000 in
/-- AN ARGUMENT OF RAW THINGS: it reads as plain data. -/
theorem open_rawsR {v : Value} {d : DataW H} {p : List MemPlace} (h : DataW.Trod enc Tryd.prog W 0 (fun _ => true) true 22 v d p) (hok : ∃ a len cap, v = .slice a len cap)
    (hs : ∀ n ∈ d.weights Tryd.prog 22, n ≤ reachBytes) : ∃ ls, RawsR W W.heap.size v ls := by
  obtain ⟨fuel, hf⟩ := h
  obtain ⟨a0, len0, cap0, rfl⟩ := hok
  have hf' : DataW.trod enc Tryd.prog W 0 (fun _ => true) true fuel 22 [.slice a0 len0 cap0] = some (d, p) := by simpa [Value.cells] using hf
  rcases open_slice Tryd.underlying22 hf' with ⟨hcs, hx⟩ | ⟨a, len, cap, m, n, D, Pl, hcs, _, hl, hm, hmm, hx, hel⟩
  · simp only [List.cons.injEq, and_true] at hcs
    rw [hcs]
    exact ⟨[], none, 0, rfl, Nat.le_refl _, (by decide), fun _ => rfl, fun h => absurd h (by simp)⟩
  · simp only [List.cons.injEq, and_true] at hcs
    rw [hcs]
    simp only [if_true] at hmm
    subst hmm
    have hd := (Prod.mk.injEq _ _ _ _ ▸ hx).1
    rw [Tryd.cellsRaw] at hel
    have hsz : len * 32 ≤ 140737488351232 := by
      have := hs ((len + (m - len)) * 32) (by
        rw [hd]
        simp [DataW.weights, Tryd.underlying22, Tryd.bytesRaw])
      unfold reachBytes at this
      omega
    haveI : Inhabited RawD := ⟨⟨0, 0, 0, 0⟩⟩
    obtain ⟨q, hq⟩ := choose_lt (α := RawD) (n := len) (p := fun i z => W.cells? 0 (a.add (i * 4)) 4 = some [.int .i64 z.kind, .int .i64 z.a, .int .i64 z.b, .int .i64 z.c] ∧ Fits z.kind ∧ Fits z.a ∧ Fits z.b ∧ Fits z.c)
      (fun i hi => by
        obtain ⟨cs, h1, h2⟩ := hel i (by omega)
        obtain ⟨x, rfl, h3⟩ := open_raw h2
        exact ⟨x, h1, h3⟩)
    have hlen : ((List.range len).map fun i => q i).length = len := by simp
    refine ⟨(List.range len).map fun i => q i, some a, m, by rw [hlen], by omega, by omega, (by intro h; cases h), fun hp => ?_⟩
    rw [hlen] at hp
    obtain ⟨b, off, spot⟩ := a
    have hcell : ∀ i, i < len → ∀ j, j < 4 → W.cell? ((⟨b, off, spot⟩ : Addr).add (i * 4 + j)) = [Value.int .i64 (q i).kind, .int .i64 (q i).a, .int .i64 (q i).b, .int .i64 (q i).c][j]? := fun i hi j hj => by
      obtain ⟨_, _, hc⟩ := World.cells?_some (hq i hi).1
      have := hc j hj
      rwa [add_add] at this
    have h0 := hcell 0 hp 0 (by omega)
    have hspot : spot = none := by simpa [Addr.add] using World.cell?_spot h0
    subst hspot
    refine ⟨b, off, rfl, World.block_lt_of_cell? W _ h0, fun i x hx => ?_⟩
    have hi : i < len := by have := (List.getElem?_eq_some_iff.1 hx).1; simpa using this
    have ex : q i = x := by
      rw [List.getElem?_map, List.getElem?_range hi] at hx
      simpa using hx
    have c0 := hcell i hi 0 (by omega)
    have c1 := hcell i hi 1 (by omega)
    have c2 := hcell i hi 2 (by omega)
    have c3 := hcell i hi 3 (by omega)
    rw [add_plain] at c0 c1 c2 c3
    subst ex
    exact ⟨by simpa using c0, by simpa [Nat.add_assoc] using c1, by simpa [Nat.add_assoc] using c2, by simpa [Nat.add_assoc] using c3, (hq i hi).2⟩

end

end Go.Proofs.YtkmeiilnjkmkiaiDoor

namespace Go.Proofs.YtkmeiilnjkmkiaiDoor

open Go.RowKit

/-- What picked answers. -/
def pickZ (n m : Int) : Int := if n < 0 then (-(n + 1)) % m else n % m

theorem pickZ_bd (n m : Int) (h : 0 < m) : 0 ≤ pickZ n m ∧ pickZ n m < m := by
  unfold pickZ
  split
  · exact ⟨Int.emod_nonneg _ (by omega), Int.emod_lt_of_pos _ h⟩
  · exact ⟨Int.emod_nonneg _ (by omega), Int.emod_lt_of_pos _ h⟩

theorem pick_neg (n m : Int) (h : n < 0) : -((n + 1).tmod m) = pickZ n m := by
  have e : n + 1 = -(-(n + 1)) := by omega
  unfold pickZ
  rw [if_pos h]
  conv => lhs; rw [e, Int.neg_tmod, Int.tmod_eq_emod_of_nonneg (by omega)]
  omega

theorem pick_pos (n m : Int) (h : ¬ n < 0) : n % m = pickZ n m := by unfold pickZ; rw [if_neg h]

theorem picked_any (n m : Int) (w : World) (h1 : -9223372036854775808 ≤ n) (h2 : n ≤ 9223372036854775807) (h3 : 0 < m) (h4 : m ≤ 9223372036854775807) :
    Calls Tryd.prog 8 #[.int .i64 n, .int .i64 m] w fun e w' => e = .returned (.int .i64 (pickZ n m)) ∧ w' = w := by
  by_cases h : n < 0
  · have H : Hid (-((n + 1).tmod m) = pickZ n m) := pick_neg n m h
    go_enter Tryd.func8, Tryd.ntmps8
    go_wp2
    go_ret
    exact ⟨by rw [← H.out]; rfl, rfl⟩
  · have H : Hid (n % m = pickZ n m) := pick_pos n m h
    go_enter Tryd.func8, Tryd.ntmps8
    go_wp2
    go_ret
    exact ⟨by rw [← H.out]; rfl, rfl⟩

end Go.Proofs.YtkmeiilnjkmkiaiDoor
