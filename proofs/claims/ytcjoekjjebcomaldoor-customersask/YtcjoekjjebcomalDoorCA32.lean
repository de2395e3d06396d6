/- A client that asks: what each call answers it, in the forms that the walk of CustomersAsk wants; From the form's reading of an argument to raw numbers as plain data (joined by program) -/
import Derived.Test.YtcjoekjjebcomalDoorRows
import Derived.WalkKit
import Derived.ProofKit
import Derived.WalkLawsBesides
import Derived.Deep.Slices
import Derived.SizedLaws
import Derived.Carry
import Derived.ChangeArms
import Derived.OpenShut
import Derived.Below
import Derived.Test.YtcjoekjjebcomalDoorCA03
import Derived.Test.YtcjoekjjebcomalDoorCA12
import Derived.Test.YtcjoekjjebcomalDoorCA13
import Derived.Test.YtcjoekjjebcomalDoorCA14
import Derived.Test.YtcjoekjjebcomalDoorCA20
import Derived.Test.YtcjoekjjebcomalDoorCA21
import Derived.Test.YtcjoekjjebcomalDoorCA24
import Derived.Test.YtcjoekjjebcomalDoorCA30
import Derived.Test.YtcjoekjjebcomalDoorCA31
namespace Go.Proofs.YtcjoekjjebcomalDoor

open Go.RowKit

theorem ask_reads {w : World} {base : Nat} {i : Int} {m vc : Nat} {vo : Option Addr} {c : CustD} (h : AskC i m c) (hm : ModestW c.waits) (hr : w.ownsRow base 55 5 (.slice vo m vc) m (flatG waitCells c.waits)) : CustR w w.heap.size (.agg #[.int .i64 i, .int .i64 5, .int .i64 ((m : Int) + 1), .slice vo m vc]) c := by
  have hl := h.good.len
  have h4 := h.len
  have hr' : w.ownsRow base 55 5 (.slice vo c.waits.length vc) c.waits.length (flatG waitCells c.waits) := by rw [h4]; exact hr
  exact ⟨.slice vo c.waits.length vc, by rw [h.id, h.session, h.next, h4], waits_row_reads hr' (by omega) hm (Nat.le_refl _)⟩

/-- A call started: there is room. -/
theorem askStart_ok {i : Int} {k vc : Nat} {vo : Option Addr} {c : CustD} {base : Nat} (h : AskC i k c) (hm : ModestW c.waits) (kk n : Int) (a b : ByteArray) (w : World) (hr : w.ownsRow base 55 5 (.slice vo k vc) k (flatG waitCells c.waits)) (ho : opE kk a b n = 0) (ha : a.size ≤ 140737488351232) (hb : b.size ≤ 140737488351232) (hk : k < 4) :
    Calls Tryd.prog 6 #[.agg #[.int .i64 i, .int .i64 5, .int .i64 ((k : Int) + 1), .slice vo k vc], .agg #[.int .i64 kk, .string a, .string b, .int .i64 n]] w fun e w' => ∃ (d : CustD) (vo' : Option Addr) (vc' : Nat), e = .returned (.tuple #[.agg #[.int .i64 i, .int .i64 5, .int .i64 ((k : Int) + 1 + 1), .slice vo' (k + 1) vc'], .int .i64 0]) ∧ AskC i (k + 1) d ∧ ModestW d.waits ∧ w'.ownsRow w.heap.size 55 5 (.slice vo' (k + 1) vc') (k + 1) (flatG waitCells d.waits) ∧ Below w.heap.size w w' := by
  have hs := h.startE ho (by omega)
  rw [if_pos hk] at hs
  refine (Start_ok _ c kk n a b w _ (ask_reads h hm hr) (Nat.le_refl _) ha hb hs).mono ?_
  rintro e w' ⟨vo', vc', he, hrow, hb'⟩
  rw [h.id, h.session, h.next, h.len] at he
  rw [h.len] at hrow
  exact ⟨startL c kk a b n, vo', vc', he, h.more ho hk, fun x hx => by
    rcases List.mem_append.1 hx with hx | hx
    · exact hm x hx
    · have : x = ⟨c.next, kk, a, b, n⟩ := by simpa using hx
      subst this
      exact ⟨ha, hb⟩, hrow, hb'⟩

/-- A call refused: the window is full. -/
theorem askStart_full {i : Int} {vc : Nat} {vo : Option Addr} {c : CustD} {base : Nat} (h : AskC i 4 c) (hm : ModestW c.waits) (kk n : Int) (a b : ByteArray) (w : World) (hr : w.ownsRow base 55 5 (.slice vo 4 vc) 4 (flatG waitCells c.waits)) (ho : opE kk a b n = 0) (ha : a.size ≤ 140737488351232) (hb : b.size ≤ 140737488351232) :
    Calls Tryd.prog 6 #[.agg #[.int .i64 i, .int .i64 5, .int .i64 5, .slice vo 4 vc], .agg #[.int .i64 kk, .string a, .string b, .int .i64 n]] w fun e w' => e = .returned (.tuple #[.agg #[.int .i64 0, .int .i64 0, .int .i64 0, .slice none 0 0], .int .i64 8]) ∧ Below w.heap.size w w' := by
  have hs := h.startE ho (by omega)
  rw [if_neg (by decide)] at hs
  have := Start_bad _ c kk n a b w _ (ask_reads h hm hr) (Nat.le_refl _) ha hb (by rw [hs]; decide)
  rw [hs] at this
  exact this

/-- What waits, asked and read. -/
theorem askRequest {i : Int} {vc : Nat} {vo : Option Addr} {c : CustD} {base : Nat} (h : AskC i 4 c) (hm : ModestW c.waits) (p : Int) (hp : 0 ≤ p ∧ p < 4) (w : World) (hr : w.ownsRow base 55 5 (.slice vo 4 vc) 4 (flatG waitCells c.waits)) :
    ∃ (t : ByteArray) (ok n : Int) (a b : ByteArray), (∀ u, Below w.heap.size w u → Calls Tryd.prog 10 #[.agg #[.int .i64 i, .int .i64 5, .int .i64 5, .slice vo 4 vc], .int .i64 p] u fun e w' => e = .returned (.tuple #[.string t, .int .i64 0]) ∧ Below u.heap.size u w') ∧
      (∀ u, Calls Tryd.prog 11 #[.string t] u fun e w' => e = .returned (.tuple #[.agg #[.int .i64 2, .int .i64 i, .int .i64 5, .int .i64 (1 + p), .int .i64 0, .int .i64 ok, .string a, .string b, .int .i64 n], .int .i64 0]) ∧ Below u.heap.size u w') := by
  obtain ⟨k, rfl⟩ : ∃ k : Nat, p = (k : Int) := ⟨p.toNat, by omega⟩
  obtain ⟨x, hx⟩ : ∃ x, c.waits[k]? = some x := ⟨_, List.getElem?_eq_getElem (by rw [h.len]; omega)⟩
  have hq := h.seq k x hx
  have he := asked_ok h.check hx
  rw [h.id, h.session, h.known, hq] at he
  have hx2 : (⟨2, i, 5, (k : Int) + 1, 0, x.kind, x.a, x.b, x.n⟩ : CmdD).err = 0 := he
  have hd := dec_all _ hx2
  have hz := cmdOut_size _ hx2
  have ho : cmdOut ⟨2, i, 5, (k : Int) + 1, 0, x.kind, x.a, x.b, x.n⟩ = strOfNums [2, i] ++ tailOut 5 ((k : Int) + 1) 0 x.kind x.a x.b x.n := by
    unfold cmdOut
    rw [if_pos rfl, ← tailOut_eq]
  refine ⟨cmdOut ⟨2, i, 5, (k : Int) + 1, 0, x.kind, x.a, x.b, x.n⟩, x.kind, x.n, x.a, x.b, fun u hu => ?_, fun u => ?_⟩
  · have := Request_ok _ c k x u _ ((ask_reads h hm hr).below hu (Nat.le_refl _)) hu.size h.check hx
    rw [h.id, h.session, h.known, hq] at this
    rw [ho]
    exact this
  · have := decode_any (cmdOut ⟨2, i, 5, (k : Int) + 1, 0, x.kind, x.a, x.b, x.n⟩) u (by omega)
    rw [hd.1, hd.2] at this
    rw [show 1 + (k : Int) = (k : Int) + 1 by omega]
    exact this

theorem askHello {i : Int} (hi : 1 ≤ i ∧ i ≤ 9) (u : World) :
    Calls Tryd.prog 11 #[.string (strOfNums [1, i])] u fun e w' => e = .returned (.tuple #[.agg #[.int .i64 1, .int .i64 i, .int .i64 0, .int .i64 0, .int .i64 0, .int .i64 0, .string ⟨#[]⟩, .string ⟨#[]⟩, .int .i64 0], .int .i64 0]) ∧ Below u.heap.size u w' := by
  have hx2 : (⟨1, i, 0, 0, 0, 0, ⟨#[]⟩, ⟨#[]⟩, 0⟩ : CmdD).err = 0 := cmdE_join hi
  have hd := dec_all _ hx2
  have hz := cmdOut_size _ hx2
  have ho : cmdOut ⟨1, i, 0, 0, 0, 0, ⟨#[]⟩, ⟨#[]⟩, 0⟩ = strOfNums [1, i] := if_neg (show ¬ (1 : Int) = 2 by decide)
  have := decode_any (cmdOut ⟨1, i, 0, 0, 0, 0, ⟨#[]⟩, ⟨#[]⟩, 0⟩) u (by omega)
  rw [hd.1, hd.2, ho] at this
  exact this

/-- Its first session. -/
theorem askJoin {i : Int} (hi : 1 ≤ i ∧ i ≤ 9) (u : World) :
    Calls Tryd.prog 8 #[.agg #[.int .i64 i, .int .i64 0, .int .i64 1, .slice none 0 0], .agg #[.int .i64 i, .int .i64 0, .int .i64 0, .int .i64 5, .string ⟨#[]⟩]] u fun e w' => ∃ (vo : Option Addr) (vc : Nat), e = .returned (.tuple #[.agg #[.int .i64 i, .int .i64 5, .int .i64 1, .slice vo 0 vc], .int .i64 0]) ∧ w'.ownsRow u.heap.size 55 5 (.slice vo 0 vc) 0 (flatG waitCells []) ∧ Below u.heap.size u w' := by
  obtain ⟨h1, h2, -⟩ := new_hear hi
  have := Hear_any (.agg #[.int .i64 i, .int .i64 0, .int .i64 1, .slice none 0 0]) ⟨i, 0, 1, []⟩ i 0 0 5 ⟨#[]⟩ u u.heap.size ⟨_, rfl, WaitsR.nil _ _⟩ (Nat.le_refl _)
  rw [h1, h2] at this
  refine this.mono ?_
  rintro e w' ⟨v', he, ⟨vo, vc, rfl, hr, -⟩, hb⟩
  exact ⟨vo, vc, he, hr, hb⟩

/-- The first call's reply, heard, and heard again; a call's reply that tells that there is no session. -/
theorem askHear1 {i : Int} {vc : Nat} {vo : Option Addr} {c : CustD} {base : Nat} (h : AskC i 4 c) (hm : ModestW c.waits) (w : World) (hr : w.ownsRow base 55 5 (.slice vo 4 vc) 4 (flatG waitCells c.waits)) :
    ∃ (d : CustD) (d0 d1 d2 : Int), (∀ u, Below w.heap.size w u → Calls Tryd.prog 8 #[.agg #[.int .i64 i, .int .i64 5, .int .i64 5, .slice vo 4 vc], .agg #[.int .i64 i, .int .i64 1, .int .i64 0, .int .i64 0, .string ⟨#[]⟩]] u fun e w' => ∃ (vo' : Option Addr) (vc' : Nat), e = .returned (.tuple #[.agg #[.int .i64 d0, .int .i64 d1, .int .i64 d2, .slice vo' 3 vc'], .int .i64 0]) ∧ CustR w' w'.heap.size (.agg #[.int .i64 d0, .int .i64 d1, .int .i64 d2, .slice vo' 3 vc']) d ∧ Below u.heap.size u w') ∧
      (∀ u v B, CustR u B v d → B ≤ u.heap.size → Calls Tryd.prog 8 #[v, .agg #[.int .i64 i, .int .i64 1, .int .i64 0, .int .i64 0, .string ⟨#[]⟩]] u fun e w' => ∃ (x0 x1 x2 : Int) (x3 : Option Addr) (x4 x5 : Nat), e = .returned (.tuple #[.agg #[.int .i64 x0, .int .i64 x1, .int .i64 x2, .slice x3 x4 x5], .int .i64 12]) ∧ Below u.heap.size u w') := by
  obtain ⟨h1, h2, h3⟩ := h.hear1
  refine ⟨hearC c i 1 0 0, (hearC c i 1 0 0).id, (hearC c i 1 0 0).session, (hearC c i 1 0 0).next, fun u hu => ?_, fun u v B hv hB => ?_⟩
  · have := Hear_any _ c i 1 0 0 ⟨#[]⟩ u _ ((ask_reads h hm hr).below hu (Nat.le_refl _)) hu.size
    rw [h1] at this
    refine this.mono ?_
    rintro e w' ⟨v', he, ho, hb⟩
    have hrd := ho.reads
    obtain ⟨vo', vc', rfl, -⟩ := ho
    rw [h2] at he hrd
    exact ⟨vo', vc', he, hrd, hb⟩
  · have := Hear_any v (hearC c i 1 0 0) i 1 0 0 ⟨#[]⟩ u B hv hB
    rw [h3] at this
    refine this.mono ?_
    rintro e w' ⟨v', he, ⟨vo', vc', rfl, -⟩, hb⟩
    exact ⟨_, _, _, _, _, _, he, hb⟩

theorem askHear2 {i : Int} {vc : Nat} {vo : Option Addr} {c : CustD} {base : Nat} (h : AskC i 4 c) (hm : ModestW c.waits) (w : World) (hr : w.ownsRow base 55 5 (.slice vo 4 vc) 4 (flatG waitCells c.waits)) (u : World) (hu : Below w.heap.size w u) :
    Calls Tryd.prog 8 #[.agg #[.int .i64 i, .int .i64 5, .int .i64 5, .slice vo 4 vc], .agg #[.int .i64 i, .int .i64 2, .int .i64 11, .int .i64 0, .string ⟨#[]⟩]] u fun e w' => ∃ (vo' : Option Addr) (vc' : Nat), e = .returned (.tuple #[.agg #[.int .i64 i, .int .i64 0, .int .i64 5, .slice vo' 0 vc'], .int .i64 0]) ∧ CustR w' w'.heap.size (.agg #[.int .i64 i, .int .i64 0, .int .i64 5, .slice vo' 0 vc']) ⟨i, 0, 5, []⟩ ∧ Below u.heap.size u w' := by
  obtain ⟨h1, h2, h3⟩ := h.hear2
  have := Hear_any _ c i 2 11 0 ⟨#[]⟩ u _ ((ask_reads h hm hr).below hu (Nat.le_refl _)) hu.size
  rw [h1, h2] at this
  refine this.mono ?_
  rintro e w' ⟨v', he, ho, hb⟩
  have hrd := ho.reads
  obtain ⟨vo', vc', rfl, -⟩ := ho
  exact ⟨vo', vc', he, hrd, hb⟩

theorem askOp (x0 : Int) (k : Nat) (hk : k ≤ 8) (u : World) (f0 : -9223372036854775808 ≤ x0 ∧ x0 ≤ 9223372036854775807) :
    Calls Tryd.prog 9 #[.agg #[.int .i64 x0, .int .i64 k, .int .i64 0, .int .i64 0]] u fun e w' => ∃ (s : ByteArray) (n : Int), e = .returned (.agg #[.int .i64 (opK (pickZ x0 9)), .string (nameK k), .string s, .int .i64 n]) ∧ opE (opK (pickZ x0 9)) (nameK k) s n = 0 ∧ (nameK (k : Int)).size ≤ 140737488351232 ∧ s.size ≤ 140737488351232 ∧ Below u.heap.size u w' := by
  refine (keepOp_any x0 k 0 0 u f0 (by omega) (by omega) (by omega)).mono ?_
  rintro e w' ⟨s, n, he, h5, hn, hb⟩
  refine ⟨s, n, he, keepOp_ok x0 k 0 s n h5 hn, ?_, ?_, hb⟩
  · rcases nameK_of (k : Int) with e | e | e <;> rw [e] <;> decide
  · by_cases e : opK (pickZ x0 9) = 5
    · have := (h5 e).1
      omega
    · rw [(hn e).1]
      decide

end Go.Proofs.YtcjoekjjebcomalDoor

namespace Go.Proofs.YtcjoekjjebcomalDoor

open Go.ChangeShapes Go.WideShapes Go.ChangeAt Go.RowKit Go.Deep

set_option maxRecDepth 100000

/-- Raw numbers, as plain data. -/
structure RawD where
  kind : Int
  a : Int
  b : Int
  c : Int

/-- A number that fits. -/
def Fits (n : Int) : Prop := -9223372036854775808 ≤ n ∧ n ≤ 9223372036854775807

/-- The value v reads in w as the raw things xs; its memory lies below block B. -/
def RawsR (w : World) (B : Nat) (v : Value) (xs : List RawD) : Prop :=
  ∃ ao cap, v = .slice ao xs.length cap ∧ xs.length ≤ cap ∧ xs.length * 32 ≤ 140737488351232 ∧ (ao = none → cap = 0) ∧
    (0 < xs.length → ∃ b off, ao = some ⟨b, off, none⟩ ∧ b < B ∧ ∀ (k : Nat) (x : RawD), xs[k]? = some x →
      w.cell? ⟨b, off + k * 4, none⟩ = some (.int .i64 x.kind) ∧ w.cell? ⟨b, off + k * 4 + 1, none⟩ = some (.int .i64 x.a) ∧ w.cell? ⟨b, off + k * 4 + 2, none⟩ = some (.int .i64 x.b) ∧ w.cell? ⟨b, off + k * 4 + 3, none⟩ = some (.int .i64 x.c) ∧ Fits x.kind ∧ Fits x.a ∧ Fits x.b ∧ Fits x.c)

theorem RawsR.below {w w' : World} {B B' : Nat} {v : Value} {xs : List RawD} (h : RawsR w B v xs) (hb : Below B' w w') (hB : B ≤ B') : RawsR w' B v xs := by
  obtain ⟨ao, cap, h0, h1, h2, h3, h4⟩ := h
  refine ⟨ao, cap, h0, h1, h2, h3, fun hp => ?_⟩
  obtain ⟨b, off, e, hlt, hc⟩ := h4 hp
  refine ⟨b, off, e, hlt, fun k x hx => ?_⟩
  obtain ⟨c0, c1, c2, c3, f⟩ := hc k x hx
  have kk : ∀ j, w'.cell? ⟨b, j, none⟩ = w.cell? ⟨b, j, none⟩ := fun j => hb.cell (p := ⟨b, j, none⟩) (by show b < B'; omega)
  exact ⟨(kk _).trans c0, (kk _).trans c1, (kk _).trans c2, (kk _).trans c3, f⟩

theorem RawsR.mono {w : World} {B B' : Nat} {v : Value} {xs : List RawD} (h : RawsR w B v xs) (hB : B ≤ B') : RawsR w B' v xs := by
  obtain ⟨ao, cap, h0, h1, h2, h3, h4⟩ := h
  refine ⟨ao, cap, h0, h1, h2, h3, fun hp => ?_⟩
  obtain ⟨b, off, e, hlt, hc⟩ := h4 hp
  exact ⟨b, off, e, by omega, hc⟩

theorem Tryd.rcellsInt : Tryd.prog.cellsOf 3 = 1 := by kernel_rfl

theorem Tryd.cellsRaw : Tryd.prog.cellsOf 42 = 4 := by kernel_rfl

theorem Tryd.bytesRaw : Tryd.prog.bytesOf 42 = 32 := by kernel_rfl

section

variable {H : Type} {enc : TypeId × Value → H} {W : World}

set_option maxRecDepth 100000 in
theorem open_raw {fuel : Nat} {cs : List Value} {d : DataW H} {p : List MemPlace} (h : DataW.trod enc Tryd.prog W 0 (fun _ => true) true fuel 42 cs = some (d, p)) :
    ∃ (x : RawD), cs = [.int .i64 x.kind, .int .i64 x.a, .int .i64 x.b, .int .i64 x.c] ∧ Fits x.kind ∧ Fits x.a ∧ Fits x.b ∧ Fits x.c := by
  obtain ⟨xs, k, _, hxy, hcl, hxl, hf⟩ := DataW.trod_struct Tryd.underlying42 h
  rw [Tryd.cellsRaw] at hcl
  match xs, hxl, cs, hcl with
  | [y0, y1, y2, y3], _, [v0, v1, v2, v3], _ =>
    have g0 := hf 0 _ rfl
    have g1 := hf 1 _ rfl
    have g2 := hf 2 _ rfl
    have g3 := hf 3 _ rfl
    simp [Tryd.rcellsInt] at g0 g1 g2 g3
    obtain ⟨n0, e0, _, f0⟩ := DataW.trod_int Tryd.underlying3 g0
    obtain ⟨n1, e1, _, f1⟩ := DataW.trod_int Tryd.underlying3 g1
    obtain ⟨n2, e2, _, f2⟩ := DataW.trod_int Tryd.underlying3 g2
    obtain ⟨n3, e3, _, f3⟩ := DataW.trod_int Tryd.underlying3 g3
    simp only [List.cons.injEq, and_true] at e0 e1 e2 e3
    subst e0 e1 e2 e3
    exact ⟨⟨n0, n1, n2, n3⟩, rfl, bounds_i64 f0, bounds_i64 f1, bounds_i64 f2, bounds_i64 f3⟩

set_option maxRecDepth 100000 in
/-- AN ARGUMENT OF RAW THINGS: it reads as plain data. -/
theorem open_rawsR {v : Value} {d : DataW H} {p : List MemPlace} (h : DataW.Trod enc Tryd.prog W 0 (fun _ => true) true 22 v d p) (hok : ∃ a len cap, v = .slice a len cap)
    (hs : ∀ n ∈ d.weights Tryd.prog 22, n ≤ reachBytes) : ∃ ls, RawsR W W.heap.size v ls := by
  obtain ⟨fuel, hf⟩ := h
  obtain ⟨a0, len0, cap0, rfl⟩ := hok
  have hf' : DataW.trod enc Tryd.prog W 0 (fun _ => true) true fuel 22 [.slice a0 len0 cap0] = some (d, p) := by simpa [Value.cells] using hf
  rcases open_slice Tryd.underlying22 hf' with ⟨hcs, hx⟩ | ⟨a, len, cap, m, n, D, Pl, hcs, _, hl, hm, hmm, hx, hel⟩
  · simp only [List.cons.injEq, and_true] at hcs
    rw [hcs]
    exact ⟨[], none, 0, rfl, Nat.le_refl _, (by decide), fun _ => rfl, fun h => absurd h (by simp)⟩
  · simp only [List.cons.injEq, and_true] at hcs
    rw [hcs]
    simp only [if_true] at hmm
    subst hmm
    have hd := (Prod.mk.injEq _ _ _ _ ▸ hx).1
    rw [Tryd.cellsRaw] at hel
    have hsz : len * 32 ≤ 140737488351232 := by
      have := hs ((len + (m - len)) * 32) (by
        rw [hd]
        simp [DataW.weights, Tryd.underlying22, Tryd.bytesRaw])
      unfold reachBytes at this
      omega
    haveI : Inhabited RawD := ⟨⟨0, 0, 0, 0⟩⟩
    obtain ⟨q, hq⟩ := choose_lt (α := RawD) (n := len) (p := fun i z => W.cells? 0 (a.add (i * 4)) 4 = some [.int .i64 z.kind, .int .i64 z.a, .int .i64 z.b, .int .i64 z.c] ∧ Fits z.kind ∧ Fits z.a ∧ Fits z.b ∧ Fits z.c)
      (fun i hi => by
        obtain ⟨cs, h1, h2⟩ := hel i (by omega)
        obtain ⟨x, rfl, h3⟩ := open_raw h2
        exact ⟨x, h1, h3⟩)
    have hlen : ((List.range len).map fun i => q i).length = len := by simp
    refine ⟨(List.range len).map fun i => q i, some a, m, by rw [hlen], by omega, by omega, (by intro h; cases h), fun hp => ?_⟩
    rw [hlen] at hp
    obtain ⟨b, off, spot⟩ := a
    have hcell : ∀ i, i < len → ∀ j, j < 4 → W.cell? ((⟨b, off, spot⟩ : Addr).add (i * 4 + j)) = [Value.int .i64 (q i).kind, .int .i64 (q i).a, .int .i64 (q i).b, .int .i64 (q i).c][j]? := fun i hi j hj => by
      obtain ⟨_, _, hc⟩ := World.cells?_some (hq i hi).1
      have := hc j hj
      rwa [add_add] at this
    have h0 := hcell 0 hp 0 (by omega)
    have hspot : spot = none := by simpa [Addr.add] using World.cell?_spot h0
    subst hspot
    refine ⟨b, off, rfl, World.block_lt_of_cell? W _ h0, fun i x hx => ?_⟩
    have hi : i < len := by have := (List.getElem?_eq_some_iff.1 hx).1; simpa using this
    have ex : q i = x := by
      rw [List.getElem?_map, List.getElem?_range hi] at hx
      simpa using hx
    have c0 := hcell i hi 0 (by omega)
    have c1 := hcell i hi 1 (by omega)
    have c2 := hcell i hi 2 (by omega)
    have c3 := hcell i hi 3 (by omega)
    rw [add_plain] at c0 c1 c2 c3
    subst ex
    exact ⟨by simpa using c0, by simpa [Nat.add_assoc] using c1, by simpa [Nat.add_assoc] using c2, by simpa [Nat.add_assoc] using c3, (hq i hi).2⟩

end

end Go.Proofs.YtcjoekjjebcomalDoor
