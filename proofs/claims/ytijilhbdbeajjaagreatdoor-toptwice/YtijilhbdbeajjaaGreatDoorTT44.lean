/- The acts that tackroomkeep.Begin and tackroomkeep.Acts make, as plain data; Acts as cells; tackroomkeep.Begin. (Written by gen_keepbegin.py.); A region that draws its order, its slots by what has come up; one block of it is stored into once; tackroomkeep.Acts. (Written by gen_keepacts.py.); Clients in memory: what a value reads as; A client in memory of a call's own; The town in memory: replicas, clients, mails, committed texts, each in a row of the call's own; what stores leave of it; cluster.isPlace, cluster.keep; What is due to a replica, how much of it a replica has, and what is committed, as the code counts it. Plain mathematics; log.At; log.Behind (joined by program) -/
import Derived.Deep.AppendLies
import Derived.Laws.OwnMore
import Derived.Deep.CutBlock
import Derived.Test.YtijilhbdbeajjaaGreatDoorRows
import Derived.Test.YtijilhbdbeajjaaGreatDoorTT43
import Derived.Test.YtijilhbdbeajjaaGreatDoorTT00
import Derived.Test.YtijilhbdbeajjaaGreatDoorTT40
import Derived.Test.YtijilhbdbeajjaaGreatDoorTT01
import Derived.Test.YtijilhbdbeajjaaGreatDoorTT41
import Derived.Test.YtijilhbdbeajjaaGreatDoorTT42
import Derived.Test.YtijilhbdbeajjaaGreatDoorTT02
namespace Go.Proofs.YtijilhbdbeajjaaGreatDoor

open Go.RowKit

def zeroA : ByteArray := ⟨#[]⟩

/-- The act of a raw thing, of so many clients. -/
def actK (m : Int) (x : RawD) : ActD :=
  if pickZ x.kind 42 < 8 then
    ⟨2, pickZ x.a m, 0, 0, opK (pickZ (x.kind.tdiv 42) 9), nameK x.b, if opK (pickZ (x.kind.tdiv 42) 9) = 5 then ⟨#[118]⟩ ++ smallT (pickZ x.c 90) else zeroA, if opK (pickZ (x.kind.tdiv 42) 9) = 5 then 1 + pickZ (x.c.tdiv 7) 4 else 0⟩
  else if pickZ x.kind 42 < 16 then ⟨3, pickZ x.a m, pickZ x.b 3, pickZ x.c 3, 0, zeroA, zeroA, 0⟩
  else if pickZ x.kind 42 < 22 then ⟨4, 0, pickZ x.b 3, 1 + pickZ x.c 6, 0, zeroA, zeroA, 0⟩
  else if pickZ x.kind 42 < 29 then ⟨5, 0, pickZ x.b 3 * pickZ x.c 2, 1 + pickZ x.c 6, 0, zeroA, zeroA, 0⟩
  else ⟨if pickZ x.kind 42 = 29 then 6 else if pickZ x.kind 42 = 30 then 7 else if pickZ x.kind 42 = 31 then 8 else if pickZ x.kind 42 = 32 then 1 else if pickZ x.kind 42 = 33 then 10 else if pickZ x.kind 42 = 34 then 11 else 9, pickZ x.a m, pickZ x.b 3, pickZ x.c 3, 0, zeroA, zeroA, 0⟩

/-- All acts of raw things. -/
def actsK (xs : List RawD) (most : Nat) (m : Int) : List ActD := (xs.take most).map (actK m)

/-- How a script begins. -/
def beginK (m : Nat) : List ActD := ((List.range m).map fun (j : Nat) => ⟨1, (j : Int), 0, 0, 0, zeroA, zeroA, 0⟩) ++ [⟨4, 0, 1, 20, 0, zeroA, zeroA, 0⟩, ⟨5, 0, 0, 20, 0, zeroA, zeroA, 0⟩] ++ List.replicate m ⟨9, 0, 0, 0, 0, zeroA, zeroA, 0⟩

theorem acts_len (xs : List RawD) (most : Nat) (m : Int) : (actsK xs most m).length ≤ most := by
  unfold actsK
  rw [List.length_map, List.length_take]
  omega

theorem begin_len (m : Nat) : (beginK m).length = 2 * m + 2 := by
  unfold beginK
  simp only [List.length_append, List.length_map, List.length_range, List.length_cons, List.length_nil, List.length_replicate]
  omega

/-- One act more. -/
theorem acts_next {xs : List RawD} {m : Int} {k : Nat} {x : RawD} (hx : xs[k]? = some x) : actsK xs (k + 1) m = actsK xs k m ++ [actK m x] := by
  unfold actsK
  rw [List.take_add_one, hx]
  simp

end Go.Proofs.YtijilhbdbeajjaaGreatDoor

namespace Go.Proofs.YtijilhbdbeajjaaGreatDoor

open Go.RowKit

def actCells (x : ActD) : List Value := [.int .i64 x.kind, .int .i64 x.c, .int .i64 x.r, .int .i64 x.k, .int .i64 x.ok, .string x.oa, .string x.ob, .int .i64 x.on]

theorem actCells_len (x : ActD) : (actCells x).length = 8 := rfl

theorem Tryz.infoAct : (Tryz.prog.info? 40).map (fun i => (i.zero, i.size, i.bytes)) = some (some (.agg #[.int .i64 0, .int .i64 0, .int .i64 0, .int .i64 0, .int .i64 0, .string ⟨#[]⟩, .string ⟨#[]⟩, .int .i64 0]), 8, 80) := by kernel_rfl

theorem actCells_one (a : ActD) : ∀ u ∈ actCells a, u.oneCell' = true := by
  intro u hu
  simp only [actCells, List.mem_cons, List.not_mem_nil, or_false] at hu
  rcases hu with rfl | rfl | rfl | rfl | rfl | rfl | rfl | rfl <;> rfl

theorem acts_one (l : List ActD) : ∀ u ∈ flatG actCells l, u.oneCell' = true := by
  induction l with
  | nil => intro u hu; simp [flatG] at hu
  | cons a r ih =>
    intro u hu
    rw [flatG_cons] at hu
    rcases List.mem_append.1 hu with h | h
    · exact actCells_one a u h
    · exact ih u h

end Go.Proofs.YtijilhbdbeajjaaGreatDoor

namespace Go.Proofs.YtijilhbdbeajjaaGreatDoor

open Go.RowKit

def entersK (m : Nat) : List ActD := (List.range m).map fun (j : Nat) => ⟨1, (j : Int), 0, 0, 0, zeroA, zeroA, 0⟩

theorem entersK_snoc (m : Nat) : entersK (m + 1) = entersK m ++ [⟨1, (m : Int), 0, 0, 0, zeroA, zeroA, 0⟩] := by
  unfold entersK
  rw [List.range_succ, List.map_append]
  rfl

/-- What begins a script, with so many mails delivered. -/
def begunK (m k : Nat) : List ActD := entersK m ++ [⟨4, 0, 1, 20, 0, zeroA, zeroA, 0⟩, ⟨5, 0, 0, 20, 0, zeroA, zeroA, 0⟩] ++ List.replicate k ⟨9, 0, 0, 0, 0, zeroA, zeroA, 0⟩

theorem begunK_zero (m : Nat) : flatG actCells (begunK m 0) = flatG actCells (entersK m) ++ (actCells ⟨4, 0, 1, 20, 0, zeroA, zeroA, 0⟩ ++ actCells ⟨5, 0, 0, 20, 0, zeroA, zeroA, 0⟩) := by
  unfold begunK
  rw [List.replicate_zero, List.append_nil, flatG_append]
  rfl

theorem begunK_snoc (m k : Nat) : flatG actCells (begunK m (k + 1)) = flatG actCells (begunK m k) ++ actCells ⟨9, 0, 0, 0, 0, zeroA, zeroA, 0⟩ := by
  unfold begunK
  rw [List.replicate_succ', ← List.append_assoc, flatG_snoc]

set_option maxRecDepth 100000 in
set_option maxHeartbeats 3200000 in
theorem Begin_any (m : Nat) (w : World) (hm : m ≤ 9) :
    Calls Tryz.prog 12 #[.int .i64 m] w fun e w' => ∃ ao cap, e = .returned (.slice ao (m + 2 + m) cap) ∧ w'.ownsRow w.heap.size 40 8 (.slice ao (m + 2 + m) cap) (m + 2 + m) (flatG actCells (beginK m)) ∧ Below w.heap.size w w' := by
  obtain ⟨i0, hi, hz0, hz1, hz2⟩ := info_parts Tryz.infoAct
  go_enter Tryz.func12, Tryz.ntmps12
  go_wp2
  go_loopw [3, 6] (fun o i wr => ∃ (k : Nat) (co : Option Addr) (cc : Nat), k ≤ m ∧ i = .int .i64 k ∧ o = .slice co k cc ∧ wr.ownsRow w.heap.size 40 8 (.slice co k cc) k (flatG actCells (entersK k)) ∧ Below w.heap.size w wr) (fun _ i _ => m - (intOf i).toNat)
  case atStart => exact ⟨0, none, 0, by omega, rfl, rfl, ⟨rfl, .inl ⟨rfl, rfl⟩⟩, Below.refl _ _⟩
  case round =>
    obtain ⟨k, co, cc, hk, rfl, rfl, hown, hb⟩ := hrel
    have HW := ghid hown
    have HB := ghid hb
    have hzr : w.heap.size ≤ wr.heap.size := hb.size
    by_cases hlt : k < m
    · have hltI : (k : Int) < (m : Int) := by omega
      clear hown hb
      go_wp2_with (at_builtin; refine wpList_append_lies _ rfl (.tmp 9) (.tmp 12) 23 rfl w.heap.size 40 i0 _ 8 80 Tryz.underlying23 hi hz0 hz1 hz2 rfl (by decide) (.slice co k cc) k (flatG actCells (entersK k)) rfl (HW.out.alloc _) ⟨wr.heap.size, 0, none⟩ 1 1 [.int .i64 1, .int .i64 k, .int .i64 0, .int .i64 0, .int .i64 0, .string ⟨#[]⟩, .string ⟨#[]⟩, .int .i64 0] rfl rfl (World.news_of_block (heap_alloc_new wr _)) (actCells_one ⟨1, (k : Int), 0, 0, 0, zeroA, zeroA, 0⟩) (by omega) (by unfold maxLen; omega) (by omega) (by simp; omega) (wr.heap.size + 1) (by simp) ?_)
      intro gn cn w3 hown3 hg3 hat3 hlt3
      have HB3 := ghid ((HB.out.alloc hzr (.cells #[.int .i64 1, .int .i64 k, .int .i64 0, .int .i64 0, .int .i64 0, .string ⟨#[]⟩, .string ⟨#[]⟩, .int .i64 0] 40)).grown hg3 (by simp; omega) (fun j hj => (HW.out.lt j hj).1))
      have HW3 : Hid (w3.ownsRow w.heap.size 40 8 (.slice (some ⟨gn, 0, none⟩) (k + 1) cn) (k + 1) (flatG actCells (entersK (k + 1)))) := by
        unfold Hid
        rw [entersK_snoc, flatG_snoc]
        exact hown3
      clear hown3 hg3 hat3 hlt3
      go_wp2
      go_roundw
      case rel => exact ⟨k + 1, some ⟨gn, 0, none⟩, cn, by omega, by go_num, rfl, HW3.out, HB3.out⟩
      case measure => simp [intOf]; omega
    · have hkl : k = m := by omega
      subst hkl
      have hltI : ¬ (k : Int) < (k : Int) := by omega
      clear hown hb
      go_wp2_with (at_builtin; refine wpList_append_lies _ rfl (.tmp 15) (.tmp 18) 23 rfl w.heap.size 40 i0 _ 8 80 Tryz.underlying23 hi hz0 hz1 hz2 rfl (by decide) (.slice co k cc) k (flatG actCells (entersK k)) rfl (HW.out.alloc _) ⟨wr.heap.size, 0, none⟩ 2 2 ([.int .i64 4, .int .i64 0, .int .i64 1, .int .i64 20, .int .i64 0, .string ⟨#[]⟩, .string ⟨#[]⟩, .int .i64 0] ++ [.int .i64 5, .int .i64 0, .int .i64 0, .int .i64 20, .int .i64 0, .string ⟨#[]⟩, .string ⟨#[]⟩, .int .i64 0]) rfl rfl (World.news_of_block (heap_alloc_new wr _)) (acts_one [⟨4, 0, 1, 20, 0, zeroA, zeroA, 0⟩, ⟨5, 0, 0, 20, 0, zeroA, zeroA, 0⟩]) (by omega) (by unfold maxLen; omega) (by omega) (by simp; omega) (wr.heap.size + 1) (by simp) ?_)
      intro gn cn w3 hown3 hg3 hat3 hlt3
      have HB3 := ghid ((HB.out.alloc hzr (.cells ([.int .i64 4, .int .i64 0, .int .i64 1, .int .i64 20, .int .i64 0, .string ⟨#[]⟩, .string ⟨#[]⟩, .int .i64 0] ++ [.int .i64 5, .int .i64 0, .int .i64 0, .int .i64 20, .int .i64 0, .string ⟨#[]⟩, .string ⟨#[]⟩, .int .i64 0] : List Value).toArray 40)).grown hg3 (by simp; omega) (fun j hj => (HW.out.lt j hj).1))
      have HW3 : Hid (w3.ownsRow w.heap.size 40 8 (.slice (some ⟨gn, 0, none⟩) (k + 2) cn) (k + 2) (flatG actCells (begunK k 0))) := by
        unfold Hid
        rw [begunK_zero]
        exact hown3
      clear hown3 hg3 hat3 hlt3 HW HB
      go_wp2
      go_loopw [3, 21] (fun o i wr => ∃ (j : Nat) (co : Option Addr) (cc : Nat), j ≤ k ∧ i = .int .i64 j ∧ o = .slice co (k + 2 + j) cc ∧ wr.ownsRow w.heap.size 40 8 (.slice co (k + 2 + j) cc) (k + 2 + j) (flatG actCells (begunK k j)) ∧ Below w.heap.size w wr) (fun _ i _ => k - (intOf i).toNat)
      case atStart => exact ⟨0, _, _, by omega, rfl, rfl, HW3.out, HB3.out⟩
      case round =>
        clear HW3 HB3
        obtain ⟨j, co, cc, hj, rfl, rfl, hown, hb⟩ := hrel
        have HW := ghid hown
        have HB := ghid hb
        have hzr : w.heap.size ≤ wr.heap.size := hb.size
        by_cases hlt : j < k
        · have hltI : (j : Int) < (k : Int) := by omega
          clear hown hb
          go_wp2_with (at_builtin; refine wpList_append_lies _ rfl (.tmp 23) (.tmp 25) 23 rfl w.heap.size 40 i0 _ 8 80 Tryz.underlying23 hi hz0 hz1 hz2 rfl (by decide) (.slice co (k + 2 + j) cc) (k + 2 + j) (flatG actCells (begunK k j)) rfl (HW.out.alloc _) ⟨wr.heap.size, 0, none⟩ 1 1 [.int .i64 9, .int .i64 0, .int .i64 0, .int .i64 0, .int .i64 0, .string ⟨#[]⟩, .string ⟨#[]⟩, .int .i64 0] rfl rfl (World.news_of_block (heap_alloc_new wr _)) (actCells_one ⟨9, 0, 0, 0, 0, zeroA, zeroA, 0⟩) (by omega) (by unfold maxLen; omega) (by omega) (by simp; omega) (wr.heap.size + 1) (by simp) ?_)
          intro gn cn w3 hown3 hg3 hat3 hlt3
          have HB3 := ghid ((HB.out.alloc hzr (.cells #[.int .i64 9, .int .i64 0, .int .i64 0, .int .i64 0, .int .i64 0, .string ⟨#[]⟩, .string ⟨#[]⟩, .int .i64 0] 40)).grown hg3 (by simp; omega) (fun j hj => (HW.out.lt j hj).1))
          have HW3 : Hid (w3.ownsRow w.heap.size 40 8 (.slice (some ⟨gn, 0, none⟩) (k + 2 + j + 1) cn) (k + 2 + j + 1) (flatG actCells (begunK k (j + 1)))) := by
            unfold Hid
            rw [begunK_snoc]
            exact hown3
          clear hown3 hg3 hat3 hlt3
          go_wp2
          go_roundw
          case rel => exact ⟨j + 1, some ⟨gn, 0, none⟩, cn, by omega, by go_num, rfl, HW3.out, HB3.out⟩
          case measure => simp [intOf]; omega
        · have hkl : j = k := by omega
          subst hkl
          have hltI : ¬ (j : Int) < (j : Int) := by omega
          clear hown hb
          go_wp2
          go_ret
          exact ⟨_, _, rfl, HW.out, HB.out⟩

end Go.Proofs.YtijilhbdbeajjaaGreatDoor

namespace Go.Proofs.YtijilhbdbeajjaaGreatDoor

open Go.RowKit

/-- A slot: its value once its operation has come up. -/
def sel (b : Bool) (v u : Value) : Value := if b = true then v else u

theorem sel_true {v u : Value} : sel true v u = v := rfl

/-- What the block holds: the one thing behind the store, the other ahead of it. -/
def selA (b : Bool) (x y : Array Value) : Array Value := if b = true then x else y

structure RegM (T n : Nat) (W : World) (b1 b2 : Bool) (x y : Array Value) (p : Nat) (w : World) : Prop where
  hn : n ≤ W.heap.size
  hb : Below n W w
  hA : b1 = true → n ≤ p ∧ w.heap[p]? = some (.cells (selA b2 x y) T (0, 0))
  ho : b2 = true → b1 = true

theorem RegM.size {T n : Nat} {W : World} {b1 b2 : Bool} {x y : Array Value} {p : Nat} {w : World} (h : RegM T n W b1 b2 x y p w) : n ≤ w.heap.size := by
  have := h.hb.size
  have := h.hn
  omega

theorem RegM.made {T n : Nat} {W : World} {b2 : Bool} {x y : Array Value} {p : Nat} {w : World} (h : RegM T n W false b2 x y p w) : RegM T n W true b2 x y w.heap.size (w.alloc (.cells y T)) := by
  have hb2 : b2 = false := by
    cases hx : b2 with
    | false => rfl
    | true => exact absurd (h.ho hx) (by simp)
  subst hb2
  exact ⟨h.hn, h.hb.alloc h.size _, fun _ => ⟨h.size, heap_alloc_new w _⟩, fun h => by cases h⟩

theorem RegM.call {T n : Nat} {W : World} {b1 b2 : Bool} {x y : Array Value} {p : Nat} {w w' : World} (h : RegM T n W b1 b2 x y p w) (hb : Below w.heap.size w w') : RegM T n W b1 b2 x y p w' := by
  refine ⟨h.hn, h.hb.trans (hb.mono h.size), fun h1 => ?_, h.ho⟩
  obtain ⟨h2, h3⟩ := h.hA h1
  exact ⟨h2, (hb.block p (Array.getElem?_eq_some_iff.1 h3).1).trans h3⟩

theorem eight_set {W : World} {ob t : Nat} {x0 x1 x2 x3 x4 x5 x6 x7 : Value} (h : W.heap[ob]? = some (.cells #[x0, x1, x2, x3, x4, x5, x6, x7] t (0, 0))) (a0 a1 a2 a3 a4 a5 a6 a7 : Value) :
    ((((((((W.setCell ⟨ob, 0, none⟩ a0).setCell ⟨ob, 1, none⟩ a1).setCell ⟨ob, 2, none⟩ a2).setCell ⟨ob, 3, none⟩ a3).setCell ⟨ob, 4, none⟩ a4).setCell ⟨ob, 5, none⟩ a5).setCell ⟨ob, 6, none⟩ a6).setCell ⟨ob, 7, none⟩ a7).heap[ob]? = some (.cells #[a0, a1, a2, a3, a4, a5, a6, a7] t (0, 0)) := by
  have g1 := heap_setCell_same W ob 0 _ t a0 h
  have g2 := heap_setCell_same _ ob 1 _ t a1 g1
  have g3 := heap_setCell_same _ ob 2 _ t a2 g2
  have g4 := heap_setCell_same _ ob 3 _ t a3 g3
  have g5 := heap_setCell_same _ ob 4 _ t a4 g4
  have g6 := heap_setCell_same _ ob 5 _ t a5 g5
  have g7 := heap_setCell_same _ ob 6 _ t a6 g6
  have g8 := heap_setCell_same _ ob 7 _ t a7 g7
  simpa using g8

theorem RegM.put {T n : Nat} {W : World} {x0 x1 x2 x3 x4 x5 x6 x7 a0 a1 a2 a3 a4 a5 a6 a7 : Value} {p : Nat} {w : World} (h : RegM T n W true false #[a0, a1, a2, a3, a4, a5, a6, a7] #[x0, x1, x2, x3, x4, x5, x6, x7] p w) :
    RegM T n W true true #[a0, a1, a2, a3, a4, a5, a6, a7] #[x0, x1, x2, x3, x4, x5, x6, x7] p ((((((((w.setCell ⟨p, 0, none⟩ a0).setCell ⟨p, 1, none⟩ a1).setCell ⟨p, 2, none⟩ a2).setCell ⟨p, 3, none⟩ a3).setCell ⟨p, 4, none⟩ a4).setCell ⟨p, 5, none⟩ a5).setCell ⟨p, 6, none⟩ a6).setCell ⟨p, 7, none⟩ a7) := by
  obtain ⟨h2, h3⟩ := h.hA rfl
  refine ⟨h.hn, ?_, fun _ => ⟨h2, eight_set h3 _ _ _ _ _ _ _ _⟩, fun _ => rfl⟩
  exact (((((((h.hb.setCell (by simpa using h2) _).setCell (by simpa using h2) _).setCell (by simpa using h2) _).setCell (by simpa using h2) _).setCell (by simpa using h2) _).setCell (by simpa using h2) _).setCell (by simpa using h2) _).setCell (by simpa using h2) _

/-- What a store of eight cells wants to know. -/
theorem RegM.open8 {T n : Nat} {W : World} {x : Array Value} {x0 x1 x2 x3 x4 x5 x6 x7 : Value} {p : Nat} {w : World} (h : RegM T n W true false x #[x0, x1, x2, x3, x4, x5, x6, x7] p w) :
    (w.cell? ⟨p, 0, none⟩ = some x0 ∧ w.cell? ⟨p, 1, none⟩ = some x1 ∧ w.cell? ⟨p, 2, none⟩ = some x2 ∧ w.cell? ⟨p, 3, none⟩ = some x3 ∧ w.cell? ⟨p, 4, none⟩ = some x4 ∧ w.cell? ⟨p, 5, none⟩ = some x5 ∧ w.cell? ⟨p, 6, none⟩ = some x6 ∧ w.cell? ⟨p, 7, none⟩ = some x7 ∧ p < w.heap.size) ∧ ∀ j, w.frozen? ⟨p, j, none⟩ = false := by
  obtain ⟨h2, h3⟩ := h.hA rfl
  exact ⟨⟨cells_of h3 0, cells_of h3 1, cells_of h3 2, cells_of h3 3, cells_of h3 4, cells_of h3 5, cells_of h3 6, cells_of h3 7, (Array.getElem?_eq_some_iff.1 h3).1⟩, fun j => frozen_of_row w p j _ _ h3⟩

theorem four_set {W : World} {ob t : Nat} {x0 x1 x2 x3 : Value} (h : W.heap[ob]? = some (.cells #[x0, x1, x2, x3] t (0, 0))) (a0 a1 a2 a3 : Value) :
    ((((W.setCell ⟨ob, 0, none⟩ a0).setCell ⟨ob, 1, none⟩ a1).setCell ⟨ob, 2, none⟩ a2).setCell ⟨ob, 3, none⟩ a3).heap[ob]? = some (.cells #[a0, a1, a2, a3] t (0, 0)) := by
  have g1 := heap_setCell_same W ob 0 _ t a0 h
  have g2 := heap_setCell_same _ ob 1 _ t a1 g1
  have g3 := heap_setCell_same _ ob 2 _ t a2 g2
  have g4 := heap_setCell_same _ ob 3 _ t a3 g3
  simpa using g4

theorem RegM.put4 {T n : Nat} {W : World} {x0 x1 x2 x3 a0 a1 a2 a3 : Value} {p : Nat} {w : World} (h : RegM T n W true false #[a0, a1, a2, a3] #[x0, x1, x2, x3] p w) :
    RegM T n W true true #[a0, a1, a2, a3] #[x0, x1, x2, x3] p ((((w.setCell ⟨p, 0, none⟩ a0).setCell ⟨p, 1, none⟩ a1).setCell ⟨p, 2, none⟩ a2).setCell ⟨p, 3, none⟩ a3) := by
  obtain ⟨h2, h3⟩ := h.hA rfl
  refine ⟨h.hn, ?_, fun _ => ⟨h2, four_set h3 _ _ _ _⟩, fun _ => rfl⟩
  exact (((h.hb.setCell (by simpa using h2) _).setCell (by simpa using h2) _).setCell (by simpa using h2) _).setCell (by simpa using h2) _

end Go.Proofs.YtijilhbdbeajjaaGreatDoor

namespace Go.Proofs.YtijilhbdbeajjaaGreatDoor

open Go.RowKit

theorem tdiv_bd (x d : Int) (hx : -9223372036854775808 ≤ x ∧ x ≤ 9223372036854775807) (hd : 1 ≤ d) : -9223372036854775808 ≤ x.tdiv d ∧ x.tdiv d ≤ 9223372036854775807 := by
  have hle : ∀ a : Int, 0 ≤ a → 0 ≤ a / d ∧ a / d ≤ a := fun a ha => ⟨Int.ediv_nonneg ha (by omega), Int.ediv_le_self _ ha⟩
  rcases Int.le_total 0 x with h | h
  · rw [Int.tdiv_eq_ediv_of_nonneg h]
    have := hle x h
    omega
  · have e : x = -(-x) := by omega
    rw [e, Int.neg_tdiv, Int.tdiv_eq_ediv_of_nonneg (by omega)]
    have := hle (-x) (by omega)
    omega

theorem eight_cell {w : World} {p : Nat} {x0 x1 x2 x3 x4 x5 x6 x7 : Value} {t : TypeId} (h : w.heap[p]? = some (.cells #[x0, x1, x2, x3, x4, x5, x6, x7] t (0, 0))) :
    w.cell? ⟨p, 0, none⟩ = some x0 ∧ w.cell? ⟨p, 1, none⟩ = some x1 ∧ w.cell? ⟨p, 2, none⟩ = some x2 ∧ w.cell? ⟨p, 3, none⟩ = some x3 ∧ w.cell? ⟨p, 4, none⟩ = some x4 ∧ w.cell? ⟨p, 5, none⟩ = some x5 ∧ w.cell? ⟨p, 6, none⟩ = some x6 ∧ w.cell? ⟨p, 7, none⟩ = some x7 ∧ p < w.heap.size :=
  ⟨cells_of h 0, cells_of h 1, cells_of h 2, cells_of h 3, cells_of h 4, cells_of h 5, cells_of h 6, cells_of h 7, (Array.getElem?_eq_some_iff.1 h).1⟩

/-- Op, to the letter. -/
theorem op_exact (x0 x1 x2 x3 : Int) (w : World) (f0 : -9223372036854775808 ≤ x0 ∧ x0 ≤ 9223372036854775807) (f1 : -9223372036854775808 ≤ x1 ∧ x1 ≤ 9223372036854775807) (f2 : -9223372036854775808 ≤ x2 ∧ x2 ≤ 9223372036854775807) (f3 : -9223372036854775808 ≤ x3 ∧ x3 ≤ 9223372036854775807) :
    Calls Tryz.prog 37 #[.agg #[.int .i64 x0, .int .i64 x1, .int .i64 x2, .int .i64 x3]] w fun e w' => e = .returned (.agg #[.int .i64 (opK (pickZ x0 9)), .string (nameK x1), .string (if opK (pickZ x0 9) = 5 then (⟨#[118]⟩ : ByteArray) ++ smallT (pickZ x2 90) else zeroA), .int .i64 (if opK (pickZ x0 9) = 5 then 1 + pickZ x3 4 else 0)]) ∧ Below w.heap.size w w' := by
  refine (keepOp_text x0 x1 x2 x3 w f0 f1 f2 f3).mono ?_
  rintro e w' ⟨s, n, rfl, h1, h2, hb⟩
  by_cases h : opK (pickZ x0 9) = 5
  · obtain ⟨rfl, rfl⟩ := h1 h
    rw [if_pos h, if_pos h]
    exact ⟨rfl, hb⟩
  · obtain ⟨rfl, rfl⟩ := h2 h
    rw [if_neg h, if_neg h]
    exact ⟨rfl, hb⟩

set_option maxRecDepth 100000 in
set_option maxHeartbeats 20000000 in
theorem Acts_any (xs : List RawD) (v : Value) (most m : Nat) (w : World) (B : Nat) (hv : RawsR w B v xs) (hB : B ≤ w.heap.size) (hm : 1 ≤ m ∧ m ≤ 9) (hmost : most ≤ 400) :
    Calls Tryz.prog 13 #[v, .int .i64 most, .int .i64 m] w fun e w' => ∃ ao cap n, e = .returned (.slice ao n cap) ∧ n = (actsK xs most m).length ∧ w'.ownsRow w.heap.size 40 8 (.slice ao n cap) n (flatG actCells (actsK xs most m)) ∧ Below w.heap.size w w' := by
  obtain ⟨i0, hi, hz0, hz1, hz2⟩ := info_parts Tryz.infoAct
  obtain ⟨ao, cap, rfl, h1, h2, h3, h4⟩ := hv
  go_enter Tryz.func13, Tryz.ntmps13
  go_wp2
  go_loopw [7, 8] (fun o i wr => ∃ (k : Nat) (co : Option Addr) (cc : Nat), k ≤ xs.length ∧ k ≤ most ∧ i = .int .i64 k ∧ o = .slice co k cc ∧ wr.ownsRow w.heap.size 40 8 (.slice co k cc) k (flatG actCells (actsK xs k m)) ∧ Below w.heap.size w wr) (fun _ i _ => most - (intOf i).toNat)
  case atStart => exact ⟨0, none, 0, by omega, by omega, rfl, rfl, ⟨rfl, .inl ⟨rfl, rfl⟩⟩, Below.refl _ _⟩
  case round =>
    obtain ⟨k, co, cc, hk, hkm, rfl, rfl, hown, hb⟩ := hrel
    have HW := ghid hown
    have HB := ghid hb
    have hzr : w.heap.size ≤ wr.heap.size := hb.size
    by_cases hlt : k < xs.length
    · have hltI : (k : Int) < (xs.length : Int) := by omega
      by_cases hlm : k < most
      · have hlmI : (k : Int) < (most : Int) := by omega
        obtain ⟨b, off, rfl, hbB, hc⟩ := h4 (by omega)
        obtain ⟨x, hx⟩ : ∃ x, xs[k]? = some x := ⟨_, List.getElem?_eq_getElem hlt⟩
        obtain ⟨c0, c1, c2, c3, f0, f1, f2, f3⟩ := hc k x hx
        have HNEXT := ghid (acts_next (m := (m : Int)) hx)
        have HA0 := ghid (flatG_snoc (c := actCells) (actsK xs k m) (actK m x))
        obtain ⟨x0, x1, x2, x3⟩ := x
        simp only at c0 c1 c2 c3 f0 f1 f2 f3
        have kk : ∀ j, wr.cell? ⟨b, j, none⟩ = w.cell? ⟨b, j, none⟩ := fun j => hb.cell (p := ⟨b, j, none⟩) (by show b < w.heap.size; omega)
        rw [← kk] at c0 c1 c2 c3
        have CPA := ghid (fun u => picked_any x1 m u f1.1 f1.2 (by omega) (by omega))
        have CPB := ghid (fun u => picked_any x2 3 u f2.1 f2.2 (by omega) (by omega))
        have CPC := ghid (fun u => picked_any x3 3 u f3.1 f3.2 (by omega) (by omega))
        have CPK := ghid (fun u => picked_any x0 42 u f0.1 f0.2 (by omega) (by omega))
        have CP6 := ghid (fun u => picked_any x3 6 u f3.1 f3.2 (by omega) (by omega))
        have CP2 := ghid (fun u => picked_any x3 2 u f3.1 f3.2 (by omega) (by omega))
        have hbr : b < wr.heap.size := by omega
        obtain ⟨ok, hok⟩ : ∃ z, z = opK (pickZ (x0.tdiv 42) 9) := ⟨_, rfl⟩
        obtain ⟨oa, hoa⟩ : ∃ z, z = nameK x2 := ⟨_, rfl⟩
        obtain ⟨ot, hot⟩ : ∃ z, z = (if opK (pickZ (x0.tdiv 42) 9) = 5 then (⟨#[118]⟩ : ByteArray) ++ smallT (pickZ x3 90) else zeroA) := ⟨_, rfl⟩
        obtain ⟨on, hon⟩ : ∃ z, z = (if opK (pickZ (x0.tdiv 42) 9) = 5 then 1 + pickZ (x3.tdiv 7) 4 else 0) := ⟨_, rfl⟩
        have hd42 := tdiv_bd x0 42 f0 (by omega)
        have hd7 := tdiv_bd x3 7 f3 (by omega)
        have CO := ghid (fun u => op_exact (x0.tdiv 42) x2 x3 (x3.tdiv 7) u hd42 f2 f3 hd7)
        rw [← hot, ← hon] at CO
        rw [← hok, ← hoa] at CO
        have HOK := ghid hok.symm
        have HOA := ghid hoa.symm
        have HOT := ghid hot.symm
        have HON := ghid hon.symm
        have hw42 : IntKind.i64.wrap (x0.tdiv 42) = x0.tdiv 42 := by rw [IntKind.wrap_i64]; omega
        have hw7 : IntKind.i64.wrap (x3.tdiv 7) = x3.tdiv 7 := by rw [IntKind.wrap_i64]; omega
        clear hok hoa hot hon hd42 hd7
        obtain ⟨pa, hpa⟩ : ∃ z, z = pickZ x1 (m : Int) := ⟨_, rfl⟩
        obtain ⟨pb, hpb⟩ : ∃ z, z = pickZ x2 3 := ⟨_, rfl⟩
        obtain ⟨pc, hpc⟩ : ∃ z, z = pickZ x3 3 := ⟨_, rfl⟩
        rw [← hpa] at CPA
        rw [← hpb] at CPB
        rw [← hpc] at CPC
        have HPA := ghid hpa
        have HPB := ghid hpb
        have HPC := ghid hpc
        clear hown hb kk hc h4 hx hpa hpb hpc f0 f1 f2 f3 h1 h2 h3
        go_upto_region 6 with fail
        go_cut [10] (fun q wx => ∃ ob, q = .pointer (some ⟨ob, 0, none⟩) ∧ wr.heap.size + 1 ≤ ob ∧ wx.heap[ob]? = some (.cells #[.int .i64 0, .int .i64 pa, .int .i64 pb, .int .i64 pc, .int .i64 0, .string ⟨#[]⟩, .string ⟨#[]⟩, .int .i64 0] 40 (0, 0)) ∧ Below (wr.heap.size + 1) (wr.alloc (.cells #[.int .i64 x0, .int .i64 x1, .int .i64 x2, .int .i64 x3] 100)) wx)
        case first =>
          have hbox : (wr.alloc (.cells #[.int .i64 x0, .int .i64 x1, .int .i64 x2, .int .i64 x3] 100)).heap[wr.heap.size]? = some (.cells #[.int .i64 x0, .int .i64 x1, .int .i64 x2, .int .i64 x3] 100 (0, 0)) := heap_alloc_new wr (.cells #[.int .i64 x0, .int .i64 x1, .int .i64 x2, .int .i64 x3] 100)
          have box_kept : ∀ {u : World}, Below (wr.heap.size + 1) (wr.alloc (.cells #[.int .i64 x0, .int .i64 x1, .int .i64 x2, .int .i64 x3] 100)) u → u.heap[wr.heap.size]? = some (.cells #[.int .i64 x0, .int .i64 x1, .int .i64 x2, .int .i64 x3] 100 (0, 0)) := fun hb => (hb.block _ (Nat.lt_succ_self _)).trans hbox
          refine wp_region_inv (by kernel_rfl) (fun d a wx => ∃ bA : Nat, a = ⟨#[.slice (some ⟨b, off, none⟩) xs.length cap, .int .i64 most, .int .i64 m, undef, undef, undef, .slice none 0 0, .slice co k cc, .int .i64 k, .pointer (some ⟨wr.heap.size, 0, none⟩), sel (d 11) (.pointer (some ⟨bA, 0, none⟩)) u10, u11, .int .i64 k, .slice (some ⟨b, off, none⟩) xs.length cap, .int .i64 xs.length, .bool true, .bool true, .int .i64 k, .int .i64 most, .bool true, .bool true, u21, u22, .slice (some ⟨b, off, none⟩) xs.length cap, .int .i64 k, .pointer (some ⟨b, off + k * 4, none⟩), .agg #[.int .i64 x0, .int .i64 x1, .int .i64 x2, .int .i64 x3], sel (d 0) (.pointer (some ⟨wr.heap.size, 1, none⟩)) u27, sel (d 1) (.int .i64 x1) u28, sel (d 2) (.int .i64 m) u29, sel (d 3) (.int .i64 pa) u30, sel (d 4) (.pointer (some ⟨wr.heap.size, 2, none⟩)) u31, sel (d 5) (.int .i64 x2) u32, sel (d 6) (.int .i64 pb) u33, sel (d 7) (.pointer (some ⟨wr.heap.size, 3, none⟩)) u34, sel (d 8) (.int .i64 x3) u35, sel (d 9) (.int .i64 pc) u36, sel (d 10) (.agg #[.int .i64 0, .int .i64 pa, .int .i64 pb, .int .i64 pc, .int .i64 0, .string ⟨#[]⟩, .string ⟨#[]⟩, .int .i64 0]) u37, u38, u39, u40, u41, u42, u43, u44, u45, u46, u47, u48, u49, u50, u51, u52, u53, u54, u55, u56, u57, u58, u59, u60, u61, u62, u63, u64, u65, u66, u67, u68, u69, u70, u71, u72, u73, u74, u75, u76, u77, u78, u79, u80, u81, u82, u83, u84, u85, u86, u87, u88, u89, u90, u91, u92, u93, u94, u95, u96, u97, u98, u99, u100, u101, u102, u103, u104, u105, u106, u107, u108, u109, u110, u111, u112, u113, u114, u115, undef], []⟩ ∧ RegM 40 (wr.heap.size + 1) (wr.alloc (.cells #[.int .i64 x0, .int .i64 x1, .int .i64 x2, .int .i64 x3] 100)) (d 11) (d 12) #[.int .i64 0, .int .i64 pa, .int .i64 pb, .int .i64 pc, .int .i64 0, .string ⟨#[]⟩, .string ⟨#[]⟩, .int .i64 0] #[.int .i64 0, .int .i64 0, .int .i64 0, .int .i64 0, .int .i64 0, .string ⟨#[]⟩, .string ⟨#[]⟩, .int .i64 0] bA wx) (by kernel_rfl) ?_ ?_ ?_
          · refine ⟨0, by simp [sel], ?_⟩
            exact ⟨by simp, (Below.refl _ _).drew, by simp, by simp⟩
          · rintro d a wx ⟨bA, rfl, hm⟩ hall
            have e : ∀ i, i < 13 → d i = true := hall
            simp only [e 0 (by omega), e 1 (by omega), e 2 (by omega), e 3 (by omega), e 4 (by omega), e 5 (by omega), e 6 (by omega), e 7 (by omega), e 8 (by omega), e 9 (by omega), e 10 (by omega), e 11 (by omega), e 12 (by omega), sel_true] at hm ⊢
            go_wp2
            go_meet
            obtain ⟨g1, g2⟩ := hm.hA rfl
            exact ⟨bA, rfl, g1, g2, hm.hb⟩
          · rintro d a wx i o ⟨bA, rfl, hm⟩ ho hd hdep
            match i, ho with
            | 0, ho =>
              have ho' := ho
              simp only [List.getElem?_toArray, List.getElem?_cons_zero, Option.some.injEq] at ho'
              refine wpOp_plain ho (by rw [← ho']) (fun K hK => ?_)
              subst ho'
              clear ho hdep
              go_simp
              exact hK _ _ ⟨bA, by simp [upon, sel], hm⟩
            | 1, ho =>
              have ho' := ho
              simp only [List.getElem?_toArray, List.getElem?_cons_zero, List.getElem?_cons_succ, Option.some.injEq] at ho'
              refine wpOp_plain ho (by rw [← ho']) (fun K hK => ?_)
              subst ho'
              have q0 : d 0 = true := hdep ⟨0, .data⟩ (by simp) rfl
              clear ho hdep
              simp only [q0, sel_true]
              have c1 : wx.cell? ⟨wr.heap.size, 1, none⟩ = some (.int .i64 x1) := cell_of_row wx wr.heap.size 1 _ _ _ (box_kept hm.hb)
              go_simp
              exact hK _ _ ⟨bA, by simp [upon, sel, q0], hm⟩
            | 2, ho =>
              have ho' := ho
              simp only [List.getElem?_toArray, List.getElem?_cons_zero, List.getElem?_cons_succ, Option.some.injEq] at ho'
              refine wpOp_plain ho (by rw [← ho']) (fun K hK => ?_)
              subst ho'
              clear ho hdep
              go_simp
              exact hK _ _ ⟨bA, by simp [upon, sel], hm⟩
            | 3, ho =>
              have ho' := ho
              simp only [List.getElem?_toArray, List.getElem?_cons_zero, List.getElem?_cons_succ, Option.some.injEq] at ho'
              refine wpOp_plain ho (by rw [← ho']) (fun K hK => ?_)
              subst ho'
              have q1 : d 1 = true := hdep ⟨1, .data⟩ (by simp) rfl
              have q2 : d 2 = true := hdep ⟨2, .data⟩ (by simp) rfl
              clear ho hdep
              simp only [q1, q2, sel_true]
              go_simp
              refine (CPA.out _).mono ?_
              rintro e u ⟨rfl, rfl⟩
              exact hK _ _ ⟨bA, by simp [upon, sel, q1, q2], hm⟩
            | 4, ho =>
              have ho' := ho
              simp only [List.getElem?_toArray, List.getElem?_cons_zero, List.getElem?_cons_succ, Option.some.injEq] at ho'
              refine wpOp_plain ho (by rw [← ho']) (fun K hK => ?_)
              subst ho'
              clear ho hdep
              go_simp
              exact hK _ _ ⟨bA, by simp [upon, sel], hm⟩
            | 5, ho =>
              have ho' := ho
              simp only [List.getElem?_toArray, List.getElem?_cons_zero, List.getElem?_cons_succ, Option.some.injEq] at ho'
              refine wpOp_plain ho (by rw [← ho']) (fun K hK => ?_)
              subst ho'
              have q4 : d 4 = true := hdep ⟨4, .data⟩ (by simp) rfl
              clear ho hdep
              simp only [q4, sel_true]
              have c2 : wx.cell? ⟨wr.heap.size, 2, none⟩ = some (.int .i64 x2) := cell_of_row wx wr.heap.size 2 _ _ _ (box_kept hm.hb)
              go_simp
              exact hK _ _ ⟨bA, by simp [upon, sel, q4], hm⟩
            | 6, ho =>
              have ho' := ho
              simp only [List.getElem?_toArray, List.getElem?_cons_zero, List.getElem?_cons_succ, Option.some.injEq] at ho'
              refine wpOp_plain ho (by rw [← ho']) (fun K hK => ?_)
              subst ho'
              have q5 : d 5 = true := hdep ⟨5, .data⟩ (by simp) rfl
              clear ho hdep
              simp only [q5, sel_true]
              go_simp
              refine (CPB.out _).mono ?_
              rintro e u ⟨rfl, rfl⟩
              exact hK _ _ ⟨bA, by simp [upon, sel, q5], hm⟩
            | 7, ho =>
              have ho' := ho
              simp only [List.getElem?_toArray, List.getElem?_cons_zero, List.getElem?_cons_succ, Option.some.injEq] at ho'
              refine wpOp_plain ho (by rw [← ho']) (fun K hK => ?_)
              subst ho'
              clear ho hdep
              go_simp
              exact hK _ _ ⟨bA, by simp [upon, sel], hm⟩
            | 8, ho =>
              have ho' := ho
              simp only [List.getElem?_toArray, List.getElem?_cons_zero, List.getElem?_cons_succ, Option.some.injEq] at ho'
              refine wpOp_plain ho (by rw [← ho']) (fun K hK => ?_)
              subst ho'
              have q7 : d 7 = true := hdep ⟨7, .data⟩ (by simp) rfl
              clear ho hdep
              simp only [q7, sel_true]
              have c3 : wx.cell? ⟨wr.heap.size, 3, none⟩ = some (.int .i64 x3) := cell_of_row wx wr.heap.size 3 _ _ _ (box_kept hm.hb)
              go_simp
              exact hK _ _ ⟨bA, by simp [upon, sel, q7], hm⟩
            | 9, ho =>
              have ho' := ho
              simp only [List.getElem?_toArray, List.getElem?_cons_zero, List.getElem?_cons_succ, Option.some.injEq] at ho'
              refine wpOp_plain ho (by rw [← ho']) (fun K hK => ?_)
              subst ho'
              have q8 : d 8 = true := hdep ⟨8, .data⟩ (by simp) rfl
              clear ho hdep
              simp only [q8, sel_true]
              go_simp
              refine (CPC.out _).mono ?_
              rintro e u ⟨rfl, rfl⟩
              exact hK _ _ ⟨bA, by simp [upon, sel, q8], hm⟩
            | 10, ho =>
              have ho' := ho
              simp only [List.getElem?_toArray, List.getElem?_cons_zero, List.getElem?_cons_succ, Option.some.injEq] at ho'
              refine wpOp_plain ho (by rw [← ho']) (fun K hK => ?_)
              subst ho'
              have q3 : d 3 = true := hdep ⟨3, .data⟩ (by simp) rfl
              have q6 : d 6 = true := hdep ⟨6, .data⟩ (by simp) rfl
              have q9 : d 9 = true := hdep ⟨9, .data⟩ (by simp) rfl
              clear ho hdep
              simp only [q3, q6, q9, sel_true]
              go_simp
              exact hK _ _ ⟨bA, by simp [upon, sel, q3, q6, q9], hm⟩
            | 11, ho =>
              have ho' := ho
              simp only [List.getElem?_toArray, List.getElem?_cons_zero, List.getElem?_cons_succ, Option.some.injEq] at ho'
              refine wpOp_plain ho (by rw [← ho']) (fun K hK => ?_)
              subst ho'
              clear ho hdep
              rw [hd] at hm
              go_simp
              exact hK _ _ ⟨wx.heap.size, by simp [upon, sel], hm.made⟩
            | 12, ho =>
              have ho' := ho
              simp only [List.getElem?_toArray, List.getElem?_cons_zero, List.getElem?_cons_succ, Option.some.injEq] at ho'
              refine wpOp_plain ho (by rw [← ho']) (fun K hK => ?_)
              subst ho'
              have q11 : d 11 = true := hdep ⟨11, .data⟩ (by simp) rfl
              have q10 : d 10 = true := hdep ⟨10, .data⟩ (by simp) rfl
              clear ho hdep
              simp only [q11, q10, sel_true]
              rw [q11, hd] at hm
              obtain ⟨⟨t0, t1, t2, t3, t4, t5, t6, t7, tl⟩, tf⟩ := hm.open8
              go_simp
              exact hK _ _ ⟨bA, by simp [upon, sel, q11, q10], by simpa [upon, q11] using hm.put⟩
            | (n + 13), ho => simp at ho
        case rest =>
          obtain ⟨ob, rfl, hob, hA, hbc⟩ := hcut
          have HOB := ghid hob
          have HBOX : Hid (wc.heap[wr.heap.size]? = some (.cells #[.int .i64 x0, .int .i64 x1, .int .i64 x2, .int .i64 x3] 100 (0, 0))) := (hbc.block _ (Nat.lt_succ_self _)).trans (heap_alloc_new wr (.cells #[.int .i64 x0, .int .i64 x1, .int .i64 x2, .int .i64 x3] 100))
          obtain ⟨q0, q1, q2, q3, -, -⟩ := state_cells HBOX.out
          obtain ⟨o0, o1, o2, o3, o4, o5, o6, o7, ol⟩ := eight_cell hA
          have tf : ∀ j, wc.frozen? ⟨ob, j, none⟩ = false := fun j => frozen_of_row wc ob j _ _ hA
          have HA := ghid hA
          have HZC : Hid (wr.heap.size + 1 ≤ wc.heap.size) := by have := hbc.size; unfold Hid; simpa using this
          have HBC : Hid (Below wr.heap.size wr wc) := ((Below.refl wr.heap.size wr).alloc (Nat.le_refl _) (.cells #[.int .i64 x0, .int .i64 x1, .int .i64 x2, .int .i64 x3] 100)).trans (hbc.mono (Nat.le_succ _))
          obtain ⟨pk, hpk⟩ : ∃ z, z = pickZ x0 42 := ⟨_, rfl⟩
          obtain ⟨p6, hp6⟩ : ∃ z, z = pickZ x3 6 := ⟨_, rfl⟩
          obtain ⟨p2, hp2⟩ : ∃ z, z = pickZ x3 2 := ⟨_, rfl⟩
          have d6 := pickZ_bd x3 6 (by omega)
          have d2 := pickZ_bd x3 2 (by omega)
          have dB := pickZ_bd x2 3 (by omega)
          rw [← hp6] at CP6 d6
          rw [← hp2] at CP2 d2
          rw [← HPB.out] at dB
          rw [← hpk] at CPK
          have hw6 : IntKind.i64.wrap (1 + p6) = 1 + p6 := by rw [IntKind.wrap_i64]; omega
          have hwm : IntKind.i64.wrap (pb * p2) = pb * p2 := by
            rcases (by omega : p2 = 0 ∨ p2 = 1) with h | h
            · rw [h, Int.mul_zero]; rfl
            · rw [h, Int.mul_one, IntKind.wrap_i64]; omega
          have HPK := ghid hpk
          have HP6 := ghid hp6
          have HP2 := ghid hp2
          clear hA hbc hpk hp6 hp2
          go_wp2_with fail
          refine (CPK.out _).mono ?_
          rintro e wd ⟨rfl, rfl⟩
          go_upto_block 2 with fail
          go_cut [10] (fun q wx => q = .pointer (some ⟨ob, 0, none⟩) ∧ Below wr.heap.size wr wx ∧ wx.heap[ob]? = some (.cells (actCells (actK (m : Int) ⟨x0, x1, x2, x3⟩)).toArray 40 (0, 0)))
          case first =>
            by_cases h8 : pk < 8
            · have HACT : Hid (actK (m : Int) ⟨x0, x1, x2, x3⟩ = ⟨2, pa, 0, 0, ok, oa, ot, on⟩) := by
                unfold Hid actK
                simp only [← HPK.out, ← HPA.out]
                rw [if_pos h8, HOT.out, HON.out, HOK.out, HOA.out]
              go_upto_region 10 with fail
              refine wp_region_inv (by kernel_rfl) (fun d a wx => a = ⟨#[.slice (some ⟨b, off, none⟩) xs.length cap, .int .i64 most, .int .i64 m, undef, undef, undef, .slice none 0 0, .slice co k cc, .int .i64 k, .pointer (some ⟨wr.heap.size, 0, none⟩), .pointer (some ⟨ob, 0, none⟩), .int .i64 pk, u12, u13, u14, u15, u16, u17, u18, u19, u20, u21, u22, u23, u24, u25, u26, u27, u28, u29, u30, u31, u32, u33, u34, u35, u36, u37, .pointer (some ⟨wr.heap.size, 0, none⟩), .int .i64 x0, .int .i64 pk, u41, .bool true, .int .i64 pk, .bool true, sel (d 0) (.pointer (some ⟨ob, 1, none⟩)) u45, sel (d 1) (.int .i64 pa) u46, sel (d 2) (.pointer (some ⟨wr.heap.size, 0, none⟩)) u47, sel (d 3) (.int .i64 x0) u48, sel (d 4) (.int .i64 (x0.tdiv 42)) u49, sel (d 5) (.pointer (some ⟨wr.heap.size, 2, none⟩)) u50, sel (d 6) (.int .i64 x2) u51, sel (d 7) (.pointer (some ⟨wr.heap.size, 3, none⟩)) u52, sel (d 8) (.int .i64 x3) u53, sel (d 9) (.pointer (some ⟨wr.heap.size, 3, none⟩)) u54, sel (d 10) (.int .i64 x3) u55, sel (d 11) (.int .i64 (x3.tdiv 7)) u56, sel (d 12) (.agg #[.int .i64 (x0.tdiv 42), .int .i64 x2, .int .i64 x3, .int .i64 (x3.tdiv 7)]) u57, sel (d 13) (.agg #[.int .i64 ok, .string oa, .string ot, .int .i64 on]) u58, sel (d 14) (.agg #[.int .i64 2, .int .i64 pa, .int .i64 0, .int .i64 0, .int .i64 ok, .string oa, .string ot, .int .i64 on]) u59, u60, u61, u62, u63, u64, u65, u66, u67, u68, u69, u70, u71, u72, u73, u74, u75, u76, u77, u78, u79, u80, u81, u82, u83, u84, u85, u86, u87, u88, u89, u90, u91, u92, u93, u94, u95, u96, u97, u98, u99, u100, u101, u102, u103, u104, u105, u106, u107, u108, u109, u110, u111, u112, u113, u114, u115, undef], []⟩ ∧ RegM 40 (wr.heap.size + 1) wd true (d 15) #[.int .i64 2, .int .i64 pa, .int .i64 0, .int .i64 0, .int .i64 ok, .string oa, .string ot, .int .i64 on] #[.int .i64 0, .int .i64 pa, .int .i64 pb, .int .i64 pc, .int .i64 0, .string ⟨#[]⟩, .string ⟨#[]⟩, .int .i64 0] ob wx ∧ Hid (d 15 = true → d 14 = true) ∧ Hid (d 14 = true → d 1 = true)) (by kernel_rfl) ?_ ?_ ?_
              · refine ⟨by simp [sel], ⟨HZC.out, (Below.refl _ _).drew, fun _ => ⟨hob, HA.out⟩, by simp⟩, ghid (by simp), ghid (by simp)⟩
              · rintro d a wx ⟨rfl, hm, -⟩ hall
                have e : ∀ i, i < 16 → d i = true := hall
                simp only [e 0 (by omega), e 1 (by omega), e 2 (by omega), e 3 (by omega), e 4 (by omega), e 5 (by omega), e 6 (by omega), e 7 (by omega), e 8 (by omega), e 9 (by omega), e 10 (by omega), e 11 (by omega), e 12 (by omega), e 13 (by omega), e 14 (by omega), e 15 (by omega), sel_true] at hm ⊢
                go_wp2
                go_meet
                exact ⟨rfl, HBC.out.trans (hm.hb.mono (Nat.le_succ _)), by rw [HACT.out]; exact (hm.hA rfl).2⟩
              · rintro d a wx i o ⟨rfl, hm, hc0, hc1⟩ ho hd hdep
                match i, ho with
                | 0, ho =>
                  have ho' := ho
                  simp only [List.getElem?_toArray, List.getElem?_cons_zero, Option.some.injEq] at ho'
                  refine wpOp_plain ho (by rw [← ho']) (fun K hK => ?_)
                  subst ho'
                  clear ho hdep
                  go_simp
                  exact hK _ _ ⟨by simp [upon, sel], hm, ⟨hc0, hc1⟩⟩
                | 1, ho =>
                  have ho' := ho
                  simp only [List.getElem?_toArray, List.getElem?_cons_zero, List.getElem?_cons_succ, Option.some.injEq] at ho'
                  refine wpOp_plain ho (by rw [← ho']) (fun K hK => ?_)
                  subst ho'
                  have q0 : d 0 = true := hdep ⟨0, .data⟩ (by simp) rfl
                  clear ho hdep
                  simp only [q0, sel_true]
                  have l1 : d 1 = false := hd
                  have l14 : d 14 = false := Bool.eq_false_iff.2 fun h => by rw [hc1.out h] at l1; cases l1
                  have l15 : d 15 = false := Bool.eq_false_iff.2 fun h => by rw [hc0.out h] at l14; cases l14
                  have o1 := (hm.hA rfl).2
                  rw [l15] at o1
                  clear l15 l14 l1
                  replace o1 : wx.cell? ⟨ob, 1, none⟩ = some (.int .i64 pa) := cell_of_row wx ob 1 _ _ _ o1
                  go_simp
                  exact hK _ _ ⟨by simp [upon, sel, q0], hm, ⟨hc0, ghid fun _ => rfl⟩⟩
                | 2, ho =>
                  have ho' := ho
                  simp only [List.getElem?_toArray, List.getElem?_cons_zero, List.getElem?_cons_succ, Option.some.injEq] at ho'
                  refine wpOp_plain ho (by rw [← ho']) (fun K hK => ?_)
                  subst ho'
                  clear ho hdep
                  go_simp
                  exact hK _ _ ⟨by simp [upon, sel], hm, ⟨hc0, hc1⟩⟩
                | 3, ho =>
                  have ho' := ho
                  simp only [List.getElem?_toArray, List.getElem?_cons_zero, List.getElem?_cons_succ, Option.some.injEq] at ho'
                  refine wpOp_plain ho (by rw [← ho']) (fun K hK => ?_)
                  subst ho'
                  have q2 : d 2 = true := hdep ⟨2, .data⟩ (by simp) rfl
                  clear ho hdep
                  simp only [q2, sel_true]
                  have c0 : wx.cell? ⟨wr.heap.size, 0, none⟩ = some (.int .i64 x0) := cell_of_row wx wr.heap.size 0 _ _ _ ((hm.hb.block _ (Nat.lt_succ_self _)).trans HBOX.out)
                  go_simp
                  exact hK _ _ ⟨by simp [upon, sel, q2], hm, ⟨hc0, hc1⟩⟩
                | 4, ho =>
                  have ho' := ho
                  simp only [List.getElem?_toArray, List.getElem?_cons_zero, List.getElem?_cons_succ, Option.some.injEq] at ho'
                  refine wpOp_plain ho (by rw [← ho']) (fun K hK => ?_)
                  subst ho'
                  have q3 : d 3 = true := hdep ⟨3, .data⟩ (by simp) rfl
                  clear ho hdep
                  simp only [q3, sel_true]
                  go_simp
                  exact hK _ _ ⟨by simp [upon, sel, q3], hm, ⟨hc0, hc1⟩⟩
                | 5, ho =>
                  have ho' := ho
                  simp only [List.getElem?_toArray, List.getElem?_cons_zero, List.getElem?_cons_succ, Option.some.injEq] at ho'
                  refine wpOp_plain ho (by rw [← ho']) (fun K hK => ?_)
                  subst ho'
                  clear ho hdep
                  go_simp
                  exact hK _ _ ⟨by simp [upon, sel], hm, ⟨hc0, hc1⟩⟩
                | 6, ho =>
                  have ho' := ho
                  simp only [List.getElem?_toArray, List.getElem?_cons_zero, List.getElem?_cons_succ, Option.some.injEq] at ho'
                  refine wpOp_plain ho (by rw [← ho']) (fun K hK => ?_)
                  subst ho'
                  have q5 : d 5 = true := hdep ⟨5, .data⟩ (by simp) rfl
                  clear ho hdep
                  simp only [q5, sel_true]
                  have c2 : wx.cell? ⟨wr.heap.size, 2, none⟩ = some (.int .i64 x2) := cell_of_row wx wr.heap.size 2 _ _ _ ((hm.hb.block _ (Nat.lt_succ_self _)).trans HBOX.out)
                  go_simp
                  exact hK _ _ ⟨by simp [upon, sel, q5], hm, ⟨hc0, hc1⟩⟩
                | 7, ho =>
                  have ho' := ho
                  simp only [List.getElem?_toArray, List.getElem?_cons_zero, List.getElem?_cons_succ, Option.some.injEq] at ho'
                  refine wpOp_plain ho (by rw [← ho']) (fun K hK => ?_)
                  subst ho'
                  clear ho hdep
                  go_simp
                  exact hK _ _ ⟨by simp [upon, sel], hm, ⟨hc0, hc1⟩⟩
                | 8, ho =>
                  have ho' := ho
                  simp only [List.getElem?_toArray, List.getElem?_cons_zero, List.getElem?_cons_succ, Option.some.injEq] at ho'
                  refine wpOp_plain ho (by rw [← ho']) (fun K hK => ?_)
                  subst ho'
                  have q7 : d 7 = true := hdep ⟨7, .data⟩ (by simp) rfl
                  clear ho hdep
                  simp only [q7, sel_true]
                  have c3 : wx.cell? ⟨wr.heap.size, 3, none⟩ = some (.int .i64 x3) := cell_of_row wx wr.heap.size 3 _ _ _ ((hm.hb.block _ (Nat.lt_succ_self _)).trans HBOX.out)
                  go_simp
                  exact hK _ _ ⟨by simp [upon, sel, q7], hm, ⟨hc0, hc1⟩⟩
                | 9, ho =>
                  have ho' := ho
                  simp only [List.getElem?_toArray, List.getElem?_cons_zero, List.getElem?_cons_succ, Option.some.injEq] at ho'
                  refine wpOp_plain ho (by rw [← ho']) (fun K hK => ?_)
                  subst ho'
                  clear ho hdep
                  go_simp
                  exact hK _ _ ⟨by simp [upon, sel], hm, ⟨hc0, hc1⟩⟩
                | 10, ho =>
                  have ho' := ho
                  simp only [List.getElem?_toArray, List.getElem?_cons_zero, List.getElem?_cons_succ, Option.some.injEq] at ho'
                  refine wpOp_plain ho (by rw [← ho']) (fun K hK => ?_)
                  subst ho'
                  have q9 : d 9 = true := hdep ⟨9, .data⟩ (by simp) rfl
                  clear ho hdep
                  simp only [q9, sel_true]
                  have c3 : wx.cell? ⟨wr.heap.size, 3, none⟩ = some (.int .i64 x3) := cell_of_row wx wr.heap.size 3 _ _ _ ((hm.hb.block _ (Nat.lt_succ_self _)).trans HBOX.out)
                  go_simp
                  exact hK _ _ ⟨by simp [upon, sel, q9], hm, ⟨hc0, hc1⟩⟩
                | 11, ho =>
                  have ho' := ho
                  simp only [List.getElem?_toArray, List.getElem?_cons_zero, List.getElem?_cons_succ, Option.some.injEq] at ho'
                  refine wpOp_plain ho (by rw [← ho']) (fun K hK => ?_)
                  subst ho'
                  have q10 : d 10 = true := hdep ⟨10, .data⟩ (by simp) rfl
                  clear ho hdep
                  simp only [q10, sel_true]
                  go_simp
                  exact hK _ _ ⟨by simp [upon, sel, q10], hm, ⟨hc0, hc1⟩⟩
                | 12, ho =>
                  have ho' := ho
                  simp only [List.getElem?_toArray, List.getElem?_cons_zero, List.getElem?_cons_succ, Option.some.injEq] at ho'
                  refine wpOp_plain ho (by rw [← ho']) (fun K hK => ?_)
                  subst ho'
                  have q4 : d 4 = true := hdep ⟨4, .data⟩ (by simp) rfl
                  have q6 : d 6 = true := hdep ⟨6, .data⟩ (by simp) rfl
                  have q8 : d 8 = true := hdep ⟨8, .data⟩ (by simp) rfl
                  have q11 : d 11 = true := hdep ⟨11, .data⟩ (by simp) rfl
                  clear ho hdep
                  simp only [q4, q6, q8, q11, sel_true]
                  go_simp
                  exact hK _ _ ⟨by simp [upon, sel, q4, q6, q8, q11], hm, ⟨hc0, hc1⟩⟩
                | 13, ho =>
                  have ho' := ho
                  simp only [List.getElem?_toArray, List.getElem?_cons_zero, List.getElem?_cons_succ, Option.some.injEq] at ho'
                  refine wpOp_plain ho (by rw [← ho']) (fun K hK => ?_)
                  subst ho'
                  have q12 : d 12 = true := hdep ⟨12, .data⟩ (by simp) rfl
                  clear ho hdep
                  simp only [q12, sel_true]
                  go_simp
                  refine (CO.out _).mono ?_
                  rintro e u ⟨rfl, hb9⟩
                  exact hK _ _ ⟨by simp [upon, sel, q12], hm.call hb9, ⟨hc0, hc1⟩⟩
                | 14, ho =>
                  have ho' := ho
                  simp only [List.getElem?_toArray, List.getElem?_cons_zero, List.getElem?_cons_succ, Option.some.injEq] at ho'
                  refine wpOp_plain ho (by rw [← ho']) (fun K hK => ?_)
                  subst ho'
                  have q1 : d 1 = true := hdep ⟨1, .data⟩ (by simp) rfl
                  have q13 : d 13 = true := hdep ⟨13, .data⟩ (by simp) rfl
                  clear ho hdep
                  simp only [q1, q13, sel_true]
                  go_simp
                  exact hK _ _ ⟨by simp [upon, sel, q1, q13], hm, ⟨ghid fun _ => rfl, ghid fun _ => q1⟩⟩
                | 15, ho =>
                  have ho' := ho
                  simp only [List.getElem?_toArray, List.getElem?_cons_zero, List.getElem?_cons_succ, Option.some.injEq] at ho'
                  refine wpOp_plain ho (by rw [← ho']) (fun K hK => ?_)
                  subst ho'
                  have q14 : d 14 = true := hdep ⟨14, .data⟩ (by simp) rfl
                  clear ho hdep
                  simp only [q14, sel_true]
                  rw [hd] at hm
                  obtain ⟨⟨t0, t1, t2, t3, t4, t5, t6, t7, tl⟩, tf⟩ := hm.open8
                  go_simp
                  exact hK _ _ ⟨by simp [upon, sel, q14], by simpa [upon] using hm.put, ⟨ghid fun _ => q14, hc1⟩⟩
                | (n + 16), ho => simp at ho
            · by_cases h16 : pk < 16
              · have HACT : Hid (actK (m : Int) ⟨x0, x1, x2, x3⟩ = ⟨3, pa, pb, pc, 0, zeroA, zeroA, 0⟩) := by
                  unfold Hid actK
                  simp only [← HPK.out, ← HPA.out, ← HPB.out, ← HPC.out]
                  rw [if_neg h8, if_pos h16]
                go_wp2_with fail
                go_meet
                exact ⟨rfl, (HBC.out.setCell (by simp; omega) _), by rw [HACT.out]; simpa [zeroA, actCells] using heap_setCell_same wd ob 0 _ 40 (.int .i64 3) HA.out⟩
              · by_cases h22 : pk < 22
                · have HACT : Hid (actK (m : Int) ⟨x0, x1, x2, x3⟩ = ⟨4, 0, pb, 1 + p6, 0, zeroA, zeroA, 0⟩) := by
                    unfold Hid actK
                    simp only [← HPK.out, ← HPB.out, ← HP6.out]
                    rw [if_neg h8, if_neg h16, if_pos h22]
                  go_upto_region 14 with fail
                  refine wp_region_inv (by kernel_rfl) (fun d a wx => a = ⟨#[.slice (some ⟨b, off, none⟩) xs.length cap, .int .i64 most, .int .i64 m, undef, undef, undef, .slice none 0 0, .slice co k cc, .int .i64 k, .pointer (some ⟨wr.heap.size, 0, none⟩), .pointer (some ⟨ob, 0, none⟩), .int .i64 pk, u12, u13, u14, u15, u16, u17, u18, u19, u20, u21, u22, u23, u24, u25, u26, u27, u28, u29, u30, u31, u32, u33, u34, u35, u36, u37, .pointer (some ⟨wr.heap.size, 0, none⟩), .int .i64 x0, .int .i64 pk, u41, .bool false, .int .i64 pk, .bool false, u45, u46, u47, u48, u49, u50, u51, u52, u53, u54, u55, u56, u57, u58, u59, .bool false, .int .i64 pk, .bool false, u63, .bool true, .int .i64 pk, .bool true, sel (d 0) (.pointer (some ⟨ob, 2, none⟩)) u67, sel (d 1) (.int .i64 pb) u68, sel (d 2) (.pointer (some ⟨wr.heap.size, 3, none⟩)) u69, sel (d 3) (.int .i64 x3) u70, sel (d 4) (.int .i64 p6) u71, sel (d 5) (.int .i64 (1 + p6)) u72, sel (d 6) (.agg #[.int .i64 4, .int .i64 0, .int .i64 pb, .int .i64 (1 + p6), .int .i64 0, .string ⟨#[]⟩, .string ⟨#[]⟩, .int .i64 0]) u73, u74, u75, u76, u77, u78, u79, u80, u81, u82, u83, u84, u85, u86, u87, u88, u89, u90, u91, u92, u93, u94, u95, u96, u97, u98, u99, u100, u101, u102, u103, u104, u105, u106, u107, u108, u109, u110, u111, u112, u113, u114, u115, undef], []⟩ ∧ RegM 40 (wr.heap.size + 1) wd true (d 7) #[.int .i64 4, .int .i64 0, .int .i64 pb, .int .i64 (1 + p6), .int .i64 0, .string ⟨#[]⟩, .string ⟨#[]⟩, .int .i64 0] #[.int .i64 0, .int .i64 pa, .int .i64 pb, .int .i64 pc, .int .i64 0, .string ⟨#[]⟩, .string ⟨#[]⟩, .int .i64 0] ob wx ∧ Hid (d 7 = true → d 6 = true) ∧ Hid (d 6 = true → d 1 = true)) (by kernel_rfl) ?_ ?_ ?_
                  · refine ⟨by simp [sel], ⟨HZC.out, (Below.refl _ _).drew, fun _ => ⟨hob, HA.out⟩, by simp⟩, ghid (by simp), ghid (by simp)⟩
                  · rintro d a wx ⟨rfl, hm, -⟩ hall
                    have e : ∀ i, i < 8 → d i = true := hall
                    simp only [e 0 (by omega), e 1 (by omega), e 2 (by omega), e 3 (by omega), e 4 (by omega), e 5 (by omega), e 6 (by omega), e 7 (by omega), sel_true] at hm ⊢
                    go_wp2
                    go_meet
                    exact ⟨rfl, HBC.out.trans (hm.hb.mono (Nat.le_succ _)), by rw [HACT.out]; exact (hm.hA rfl).2⟩
                  · rintro d a wx i o ⟨rfl, hm, hc0, hc1⟩ ho hd hdep
                    match i, ho with
                    | 0, ho =>
                      have ho' := ho
                      simp only [List.getElem?_toArray, List.getElem?_cons_zero, Option.some.injEq] at ho'
                      refine wpOp_plain ho (by rw [← ho']) (fun K hK => ?_)
                      subst ho'
                      clear ho hdep
                      go_simp
                      exact hK _ _ ⟨by simp [upon, sel], hm, ⟨hc0, hc1⟩⟩
                    | 1, ho =>
                      have ho' := ho
                      simp only [List.getElem?_toArray, List.getElem?_cons_zero, List.getElem?_cons_succ, Option.some.injEq] at ho'
                      refine wpOp_plain ho (by rw [← ho']) (fun K hK => ?_)
                      subst ho'
                      have q0 : d 0 = true := hdep ⟨0, .data⟩ (by simp) rfl
                      clear ho hdep
                      simp only [q0, sel_true]
                      have l1 : d 1 = false := hd
                      have l6 : d 6 = false := Bool.eq_false_iff.2 fun h => by rw [hc1.out h] at l1; cases l1
                      have l7 : d 7 = false := Bool.eq_false_iff.2 fun h => by rw [hc0.out h] at l6; cases l6
                      have o1 := (hm.hA rfl).2
                      rw [l7] at o1
                      clear l7 l6 l1
                      have o2 : wx.cell? ⟨ob, 2, none⟩ = some (.int .i64 pb) := cell_of_row wx ob 2 _ _ _ o1
                      go_simp
                      exact hK _ _ ⟨by simp [upon, sel, q0], hm, ⟨hc0, ghid fun _ => rfl⟩⟩
                    | 2, ho =>
                      have ho' := ho
                      simp only [List.getElem?_toArray, List.getElem?_cons_zero, List.getElem?_cons_succ, Option.some.injEq] at ho'
                      refine wpOp_plain ho (by rw [← ho']) (fun K hK => ?_)
                      subst ho'
                      clear ho hdep
                      go_simp
                      exact hK _ _ ⟨by simp [upon, sel], hm, ⟨hc0, hc1⟩⟩
                    | 3, ho =>
                      have ho' := ho
                      simp only [List.getElem?_toArray, List.getElem?_cons_zero, List.getElem?_cons_succ, Option.some.injEq] at ho'
                      refine wpOp_plain ho (by rw [← ho']) (fun K hK => ?_)
                      subst ho'
                      have q2 : d 2 = true := hdep ⟨2, .data⟩ (by simp) rfl
                      clear ho hdep
                      simp only [q2, sel_true]
                      have c3 : wx.cell? ⟨wr.heap.size, 3, none⟩ = some (.int .i64 x3) := cell_of_row wx wr.heap.size 3 _ _ _ ((hm.hb.block _ (Nat.lt_succ_self _)).trans HBOX.out)
                      go_simp
                      exact hK _ _ ⟨by simp [upon, sel, q2], hm, ⟨hc0, hc1⟩⟩
                    | 4, ho =>
                      have ho' := ho
                      simp only [List.getElem?_toArray, List.getElem?_cons_zero, List.getElem?_cons_succ, Option.some.injEq] at ho'
                      refine wpOp_plain ho (by rw [← ho']) (fun K hK => ?_)
                      subst ho'
                      have q3 : d 3 = true := hdep ⟨3, .data⟩ (by simp) rfl
                      clear ho hdep
                      simp only [q3, sel_true]
                      go_simp
                      refine (CP6.out _).mono ?_
                      rintro e u ⟨rfl, rfl⟩
                      exact hK _ _ ⟨by simp [upon, sel, q3], hm, ⟨hc0, hc1⟩⟩
                    | 5, ho =>
                      have ho' := ho
                      simp only [List.getElem?_toArray, List.getElem?_cons_zero, List.getElem?_cons_succ, Option.some.injEq] at ho'
                      refine wpOp_plain ho (by rw [← ho']) (fun K hK => ?_)
                      subst ho'
                      have q4 : d 4 = true := hdep ⟨4, .data⟩ (by simp) rfl
                      clear ho hdep
                      simp only [q4, sel_true]
                      go_simp
                      exact hK _ _ ⟨by simp [upon, sel, q4], hm, ⟨hc0, hc1⟩⟩
                    | 6, ho =>
                      have ho' := ho
                      simp only [List.getElem?_toArray, List.getElem?_cons_zero, List.getElem?_cons_succ, Option.some.injEq] at ho'
                      refine wpOp_plain ho (by rw [← ho']) (fun K hK => ?_)
                      subst ho'
                      have q1 : d 1 = true := hdep ⟨1, .data⟩ (by simp) rfl
                      have q5 : d 5 = true := hdep ⟨5, .data⟩ (by simp) rfl
                      clear ho hdep
                      simp only [q1, q5, sel_true]
                      go_simp
                      exact hK _ _ ⟨by simp [upon, sel, q1, q5], hm, ⟨ghid fun _ => rfl, ghid fun _ => q1⟩⟩
                    | 7, ho =>
                      have ho' := ho
                      simp only [List.getElem?_toArray, List.getElem?_cons_zero, List.getElem?_cons_succ, Option.some.injEq] at ho'
                      refine wpOp_plain ho (by rw [← ho']) (fun K hK => ?_)
                      subst ho'
                      have q6 : d 6 = true := hdep ⟨6, .data⟩ (by simp) rfl
                      clear ho hdep
                      simp only [q6, sel_true]
                      rw [hd] at hm
                      obtain ⟨⟨t0, t1, t2, t3, t4, t5, t6, t7, tl⟩, tf⟩ := hm.open8
                      go_simp
                      exact hK _ _ ⟨by simp [upon, sel, q6], by simpa [upon] using hm.put, ⟨ghid fun _ => q6, hc1⟩⟩
                    | (n + 8), ho => simp at ho
                · by_cases h29 : pk < 29
                  · have HACT : Hid (actK (m : Int) ⟨x0, x1, x2, x3⟩ = ⟨5, 0, pb * p2, 1 + p6, 0, zeroA, zeroA, 0⟩) := by
                      unfold Hid actK
                      simp only [← HPK.out, ← HPB.out, ← HP6.out, ← HP2.out]
                      rw [if_neg h8, if_neg h16, if_neg h22, if_pos h29]
                    go_upto_region 16 with fail
                    refine wp_region_inv (by kernel_rfl) (fun d a wx => a = ⟨#[.slice (some ⟨b, off, none⟩) xs.length cap, .int .i64 most, .int .i64 m, undef, undef, undef, .slice none 0 0, .slice co k cc, .int .i64 k, .pointer (some ⟨wr.heap.size, 0, none⟩), .pointer (some ⟨ob, 0, none⟩), .int .i64 pk, u12, u13, u14, u15, u16, u17, u18, u19, u20, u21, u22, u23, u24, u25, u26, u27, u28, u29, u30, u31, u32, u33, u34, u35, u36, u37, .pointer (some ⟨wr.heap.size, 0, none⟩), .int .i64 x0, .int .i64 pk, u41, .bool false, .int .i64 pk, .bool false, u45, u46, u47, u48, u49, u50, u51, u52, u53, u54, u55, u56, u57, u58, u59, .bool false, .int .i64 pk, .bool false, u63, .bool false, .int .i64 pk, .bool false, u67, u68, u69, u70, u71, u72, u73, .bool true, .int .i64 pk, .bool true, sel (d 0) (.pointer (some ⟨ob, 2, none⟩)) u77, sel (d 1) (.int .i64 pb) u78, sel (d 2) (.pointer (some ⟨wr.heap.size, 3, none⟩)) u79, sel (d 3) (.int .i64 x3) u80, sel (d 4) (.int .i64 p2) u81, sel (d 5) (.int .i64 (pb * p2)) u82, sel (d 6) (.pointer (some ⟨wr.heap.size, 3, none⟩)) u83, sel (d 7) (.int .i64 x3) u84, sel (d 8) (.int .i64 p6) u85, sel (d 9) (.int .i64 (1 + p6)) u86, sel (d 10) (.agg #[.int .i64 5, .int .i64 0, .int .i64 (pb * p2), .int .i64 (1 + p6), .int .i64 0, .string ⟨#[]⟩, .string ⟨#[]⟩, .int .i64 0]) u87, u88, u89, u90, u91, u92, u93, u94, u95, u96, u97, u98, u99, u100, u101, u102, u103, u104, u105, u106, u107, u108, u109, u110, u111, u112, u113, u114, u115, undef], []⟩ ∧ RegM 40 (wr.heap.size + 1) wd true (d 11) #[.int .i64 5, .int .i64 0, .int .i64 (pb * p2), .int .i64 (1 + p6), .int .i64 0, .string ⟨#[]⟩, .string ⟨#[]⟩, .int .i64 0] #[.int .i64 0, .int .i64 pa, .int .i64 pb, .int .i64 pc, .int .i64 0, .string ⟨#[]⟩, .string ⟨#[]⟩, .int .i64 0] ob wx ∧ Hid (d 11 = true → d 10 = true) ∧ Hid (d 10 = true → d 5 = true) ∧ Hid (d 5 = true → d 1 = true)) (by kernel_rfl) ?_ ?_ ?_
                    · refine ⟨by simp [sel], ⟨HZC.out, (Below.refl _ _).drew, fun _ => ⟨hob, HA.out⟩, by simp⟩, ghid (by simp), ghid (by simp), ghid (by simp)⟩
                    · rintro d a wx ⟨rfl, hm, -⟩ hall
                      have e : ∀ i, i < 12 → d i = true := hall
                      simp only [e 0 (by omega), e 1 (by omega), e 2 (by omega), e 3 (by omega), e 4 (by omega), e 5 (by omega), e 6 (by omega), e 7 (by omega), e 8 (by omega), e 9 (by omega), e 10 (by omega), e 11 (by omega), sel_true] at hm ⊢
                      go_wp2
                      go_meet
                      exact ⟨rfl, HBC.out.trans (hm.hb.mono (Nat.le_succ _)), by rw [HACT.out]; exact (hm.hA rfl).2⟩
                    · rintro d a wx i o ⟨rfl, hm, hc0, hc1, hc2⟩ ho hd hdep
                      match i, ho with
                      | 0, ho =>
                        have ho' := ho
                        simp only [List.getElem?_toArray, List.getElem?_cons_zero, Option.some.injEq] at ho'
                        refine wpOp_plain ho (by rw [← ho']) (fun K hK => ?_)
                        subst ho'
                        clear ho hdep
                        go_simp
                        exact hK _ _ ⟨by simp [upon, sel], hm, ⟨hc0, hc1, hc2⟩⟩
                      | 1, ho =>
                        have ho' := ho
                        simp only [List.getElem?_toArray, List.getElem?_cons_zero, List.getElem?_cons_succ, Option.some.injEq] at ho'
                        refine wpOp_plain ho (by rw [← ho']) (fun K hK => ?_)
                        subst ho'
                        have q0 : d 0 = true := hdep ⟨0, .data⟩ (by simp) rfl
                        clear ho hdep
                        simp only [q0, sel_true]
                        have l1 : d 1 = false := hd
                        have l5 : d 5 = false := Bool.eq_false_iff.2 fun h => by rw [hc2.out h] at l1; cases l1
                        have l10 : d 10 = false := Bool.eq_false_iff.2 fun h => by rw [hc1.out h] at l5; cases l5
                        have l11 : d 11 = false := Bool.eq_false_iff.2 fun h => by rw [hc0.out h] at l10; cases l10
                        have o1 := (hm.hA rfl).2
                        rw [l11] at o1
                        clear l11 l10 l5 l1
                        have o2 : wx.cell? ⟨ob, 2, none⟩ = some (.int .i64 pb) := cell_of_row wx ob 2 _ _ _ o1
                        go_simp
                        exact hK _ _ ⟨by simp [upon, sel, q0], hm, ⟨hc0, hc1, ghid fun _ => rfl⟩⟩
                      | 2, ho =>
                        have ho' := ho
                        simp only [List.getElem?_toArray, List.getElem?_cons_zero, List.getElem?_cons_succ, Option.some.injEq] at ho'
                        refine wpOp_plain ho (by rw [← ho']) (fun K hK => ?_)
                        subst ho'
                        clear ho hdep
                        go_simp
                        exact hK _ _ ⟨by simp [upon, sel], hm, ⟨hc0, hc1, hc2⟩⟩
                      | 3, ho =>
                        have ho' := ho
                        simp only [List.getElem?_toArray, List.getElem?_cons_zero, List.getElem?_cons_succ, Option.some.injEq] at ho'
                        refine wpOp_plain ho (by rw [← ho']) (fun K hK => ?_)
                        subst ho'
                        have q2 : d 2 = true := hdep ⟨2, .data⟩ (by simp) rfl
                        clear ho hdep
                        simp only [q2, sel_true]
                        have c3 : wx.cell? ⟨wr.heap.size, 3, none⟩ = some (.int .i64 x3) := cell_of_row wx wr.heap.size 3 _ _ _ ((hm.hb.block _ (Nat.lt_succ_self _)).trans HBOX.out)
                        go_simp
                        exact hK _ _ ⟨by simp [upon, sel, q2], hm, ⟨hc0, hc1, hc2⟩⟩
                      | 4, ho =>
                        have ho' := ho
                        simp only [List.getElem?_toArray, List.getElem?_cons_zero, List.getElem?_cons_succ, Option.some.injEq] at ho'
                        refine wpOp_plain ho (by rw [← ho']) (fun K hK => ?_)
                        subst ho'
                        have q3 : d 3 = true := hdep ⟨3, .data⟩ (by simp) rfl
                        clear ho hdep
                        simp only [q3, sel_true]
                        go_simp
                        refine (CP2.out _).mono ?_
                        rintro e u ⟨rfl, rfl⟩
                        exact hK _ _ ⟨by simp [upon, sel, q3], hm, ⟨hc0, hc1, hc2⟩⟩
                      | 5, ho =>
                        have ho' := ho
                        simp only [List.getElem?_toArray, List.getElem?_cons_zero, List.getElem?_cons_succ, Option.some.injEq] at ho'
                        refine wpOp_plain ho (by rw [← ho']) (fun K hK => ?_)
                        subst ho'
                        have q1 : d 1 = true := hdep ⟨1, .data⟩ (by simp) rfl
                        have q4 : d 4 = true := hdep ⟨4, .data⟩ (by simp) rfl
                        clear ho hdep
                        simp only [q1, q4, sel_true]
                        go_simp
                        exact hK _ _ ⟨by simp [upon, sel, q1, q4], hm, ⟨hc0, ghid fun _ => rfl, ghid fun _ => q1⟩⟩
                      | 6, ho =>
                        have ho' := ho
                        simp only [List.getElem?_toArray, List.getElem?_cons_zero, List.getElem?_cons_succ, Option.some.injEq] at ho'
                        refine wpOp_plain ho (by rw [← ho']) (fun K hK => ?_)
                        subst ho'
                        clear ho hdep
                        go_simp
                        exact hK _ _ ⟨by simp [upon, sel], hm, ⟨hc0, hc1, hc2⟩⟩
                      | 7, ho =>
                        have ho' := ho
                        simp only [List.getElem?_toArray, List.getElem?_cons_zero, List.getElem?_cons_succ, Option.some.injEq] at ho'
                        refine wpOp_plain ho (by rw [← ho']) (fun K hK => ?_)
                        subst ho'
                        have q6 : d 6 = true := hdep ⟨6, .data⟩ (by simp) rfl
                        clear ho hdep
                        simp only [q6, sel_true]
                        have c3 : wx.cell? ⟨wr.heap.size, 3, none⟩ = some (.int .i64 x3) := cell_of_row wx wr.heap.size 3 _ _ _ ((hm.hb.block _ (Nat.lt_succ_self _)).trans HBOX.out)
                        go_simp
                        exact hK _ _ ⟨by simp [upon, sel, q6], hm, ⟨hc0, hc1, hc2⟩⟩
                      | 8, ho =>
                        have ho' := ho
                        simp only [List.getElem?_toArray, List.getElem?_cons_zero, List.getElem?_cons_succ, Option.some.injEq] at ho'
                        refine wpOp_plain ho (by rw [← ho']) (fun K hK => ?_)
                        subst ho'
                        have q7 : d 7 = true := hdep ⟨7, .data⟩ (by simp) rfl
                        clear ho hdep
                        simp only [q7, sel_true]
                        go_simp
                        refine (CP6.out _).mono ?_
                        rintro e u ⟨rfl, rfl⟩
                        exact hK _ _ ⟨by simp [upon, sel, q7], hm, ⟨hc0, hc1, hc2⟩⟩
                      | 9, ho =>
                        have ho' := ho
                        simp only [List.getElem?_toArray, List.getElem?_cons_zero, List.getElem?_cons_succ, Option.some.injEq] at ho'
                        refine wpOp_plain ho (by rw [← ho']) (fun K hK => ?_)
                        subst ho'
                        have q8 : d 8 = true := hdep ⟨8, .data⟩ (by simp) rfl
                        clear ho hdep
                        simp only [q8, sel_true]
                        go_simp
                        exact hK _ _ ⟨by simp [upon, sel, q8], hm, ⟨hc0, hc1, hc2⟩⟩
                      | 10, ho =>
                        have ho' := ho
                        simp only [List.getElem?_toArray, List.getElem?_cons_zero, List.getElem?_cons_succ, Option.some.injEq] at ho'
                        refine wpOp_plain ho (by rw [← ho']) (fun K hK => ?_)
                        subst ho'
                        have q5 : d 5 = true := hdep ⟨5, .data⟩ (by simp) rfl
                        have q9 : d 9 = true := hdep ⟨9, .data⟩ (by simp) rfl
                        clear ho hdep
                        simp only [q5, q9, sel_true]
                        go_simp
                        exact hK _ _ ⟨by simp [upon, sel, q5, q9], hm, ⟨ghid fun _ => rfl, ghid fun _ => q5, hc2⟩⟩
                      | 11, ho =>
                        have ho' := ho
                        simp only [List.getElem?_toArray, List.getElem?_cons_zero, List.getElem?_cons_succ, Option.some.injEq] at ho'
                        refine wpOp_plain ho (by rw [← ho']) (fun K hK => ?_)
                        subst ho'
                        have q10 : d 10 = true := hdep ⟨10, .data⟩ (by simp) rfl
                        clear ho hdep
                        simp only [q10, sel_true]
                        rw [hd] at hm
                        obtain ⟨⟨t0, t1, t2, t3, t4, t5, t6, t7, tl⟩, tf⟩ := hm.open8
                        go_simp
                        exact hK _ _ ⟨by simp [upon, sel, q10], by simpa [upon] using hm.put, ⟨ghid fun _ => q10, hc1, hc2⟩⟩
                      | (n + 12), ho => simp at ho
                  · skip
                    by_cases e29 : pk = 29
                    · have HACT : Hid (actK (m : Int) ⟨x0, x1, x2, x3⟩ = ⟨6, pa, pb, pc, 0, zeroA, zeroA, 0⟩) := by
                        unfold Hid actK
                        simp only [← HPK.out, ← HPA.out, ← HPB.out, ← HPC.out]
                        rw [if_neg h8, if_neg h16, if_neg h22, if_neg h29, if_pos e29]
                      have b29 : (pk == 29) = true := by simpa using e29
                      clear e29
                      go_wp2_with fail
                      go_meet
                      exact ⟨rfl, (HBC.out.setCell (by simp; omega) _), by rw [HACT.out]; simpa [zeroA, actCells] using heap_setCell_same wd ob 0 _ 40 (.int .i64 6) HA.out⟩
                    · have b29 : (pk == 29) = false := by simpa using e29
                      by_cases e30 : pk = 30
                      · have HACT : Hid (actK (m : Int) ⟨x0, x1, x2, x3⟩ = ⟨7, pa, pb, pc, 0, zeroA, zeroA, 0⟩) := by
                          unfold Hid actK
                          simp only [← HPK.out, ← HPA.out, ← HPB.out, ← HPC.out]
                          rw [if_neg h8, if_neg h16, if_neg h22, if_neg h29, if_neg e29, if_pos e30]
                        have b30 : (pk == 30) = true := by simpa using e30
                        clear e30
                        go_wp2_with fail
                        go_meet
                        exact ⟨rfl, (HBC.out.setCell (by simp; omega) _), by rw [HACT.out]; simpa [zeroA, actCells] using heap_setCell_same wd ob 0 _ 40 (.int .i64 7) HA.out⟩
                      · have b30 : (pk == 30) = false := by simpa using e30
                        by_cases e31 : pk = 31
                        · have HACT : Hid (actK (m : Int) ⟨x0, x1, x2, x3⟩ = ⟨8, pa, pb, pc, 0, zeroA, zeroA, 0⟩) := by
                            unfold Hid actK
                            simp only [← HPK.out, ← HPA.out, ← HPB.out, ← HPC.out]
                            rw [if_neg h8, if_neg h16, if_neg h22, if_neg h29, if_neg e29, if_neg e30, if_pos e31]
                          have b31 : (pk == 31) = true := by simpa using e31
                          clear e31
                          go_wp2_with fail
                          go_meet
                          exact ⟨rfl, (HBC.out.setCell (by simp; omega) _), by rw [HACT.out]; simpa [zeroA, actCells] using heap_setCell_same wd ob 0 _ 40 (.int .i64 8) HA.out⟩
                        · have b31 : (pk == 31) = false := by simpa using e31
                          by_cases e32 : pk = 32
                          · have HACT : Hid (actK (m : Int) ⟨x0, x1, x2, x3⟩ = ⟨1, pa, pb, pc, 0, zeroA, zeroA, 0⟩) := by
                              unfold Hid actK
                              simp only [← HPK.out, ← HPA.out, ← HPB.out, ← HPC.out]
                              rw [if_neg h8, if_neg h16, if_neg h22, if_neg h29, if_neg e29, if_neg e30, if_neg e31, if_pos e32]
                            have b32 : (pk == 32) = true := by simpa using e32
                            clear e32
                            go_wp2_with fail
                            go_meet
                            exact ⟨rfl, (HBC.out.setCell (by simp; omega) _), by rw [HACT.out]; simpa [zeroA, actCells] using heap_setCell_same wd ob 0 _ 40 (.int .i64 1) HA.out⟩
                          · have b32 : (pk == 32) = false := by simpa using e32
                            by_cases e33 : pk = 33
                            · have HACT : Hid (actK (m : Int) ⟨x0, x1, x2, x3⟩ = ⟨10, pa, pb, pc, 0, zeroA, zeroA, 0⟩) := by
                                unfold Hid actK
                                simp only [← HPK.out, ← HPA.out, ← HPB.out, ← HPC.out]
                                rw [if_neg h8, if_neg h16, if_neg h22, if_neg h29, if_neg e29, if_neg e30, if_neg e31, if_neg e32, if_pos e33]
                              have b33 : (pk == 33) = true := by simpa using e33
                              clear e33
                              go_wp2_with fail
                              go_meet
                              exact ⟨rfl, (HBC.out.setCell (by simp; omega) _), by rw [HACT.out]; simpa [zeroA, actCells] using heap_setCell_same wd ob 0 _ 40 (.int .i64 10) HA.out⟩
                            · have b33 : (pk == 33) = false := by simpa using e33
                              by_cases e34 : pk = 34
                              · have HACT : Hid (actK (m : Int) ⟨x0, x1, x2, x3⟩ = ⟨11, pa, pb, pc, 0, zeroA, zeroA, 0⟩) := by
                                  unfold Hid actK
                                  simp only [← HPK.out, ← HPA.out, ← HPB.out, ← HPC.out]
                                  rw [if_neg h8, if_neg h16, if_neg h22, if_neg h29, if_neg e29, if_neg e30, if_neg e31, if_neg e32, if_neg e33, if_pos e34]
                                have b34 : (pk == 34) = true := by simpa using e34
                                clear e34
                                go_wp2_with fail
                                go_meet
                                exact ⟨rfl, (HBC.out.setCell (by simp; omega) _), by rw [HACT.out]; simpa [zeroA, actCells] using heap_setCell_same wd ob 0 _ 40 (.int .i64 11) HA.out⟩
                              · have b34 : (pk == 34) = false := by simpa using e34
                                have HACT : Hid (actK (m : Int) ⟨x0, x1, x2, x3⟩ = ⟨9, pa, pb, pc, 0, zeroA, zeroA, 0⟩) := by
                                  unfold Hid actK
                                  simp only [← HPK.out, ← HPA.out, ← HPB.out, ← HPC.out]
                                  rw [if_neg h8, if_neg h16, if_neg h22, if_neg h29, if_neg e29, if_neg e30, if_neg e31, if_neg e32, if_neg e33, if_neg e34]
                                go_wp2_with fail
                                go_meet
                                exact ⟨rfl, (HBC.out.setCell (by simp; omega) _), by rw [HACT.out]; simpa [zeroA, actCells] using heap_setCell_same wd ob 0 _ 40 (.int .i64 9) HA.out⟩
          case rest =>
            obtain ⟨rfl, hbx, hax⟩ := hcut
            obtain ⟨A, hAe⟩ : ∃ z, z = actK (m : Int) ⟨x0, x1, x2, x3⟩ := ⟨_, rfl⟩
            have hnext := HNEXT.out
            have ha0 := HA0.out
            rw [← hAe] at hax hnext ha0
            obtain ⟨y0, y1, y2, y3, y4, y5, y6, y7⟩ := A
            have hax2 : wc.heap[ob]? = some (.cells #[.int .i64 y0, .int .i64 y1, .int .i64 y2, .int .i64 y3, .int .i64 y4, .string y5, .string y6, .int .i64 y7] 40 (0, 0)) := hax
            obtain ⟨o0, o1, o2, o3, o4, o5, o6, o7, ol⟩ := eight_cell hax2
            have HN := ghid (hnext ▸ ha0 : flatG actCells (actsK xs (k + 1) m) = flatG actCells (actsK xs k m) ++ actCells ⟨y0, y1, y2, y3, y4, y5, y6, y7⟩)
            have OWN := ghid (grow_below HW.out hbx (Nat.le_refl _))
            have HBW := ghid (HB.out.trans (hbx.mono hzr))
            have hzc : w.heap.size ≤ wc.heap.size := HBW.out.size
            clear hax hax2 hnext ha0 hAe hbx HNEXT HA0 HW HB HZC HBC HBOX HOB CPA CPB CPC CPK CP6 CP2 CO
            go_wp2_with (at_builtin; refine wpList_append_lies _ rfl (.tmp 112) (.tmp 114) 23 rfl w.heap.size 40 i0 _ 8 80 Tryz.underlying23 hi hz0 hz1 hz2 rfl (by decide) (.slice co k cc) k (flatG actCells (actsK xs k m)) rfl (OWN.out.alloc _) ⟨wc.heap.size, 0, none⟩ 1 1 [.int .i64 y0, .int .i64 y1, .int .i64 y2, .int .i64 y3, .int .i64 y4, .string y5, .string y6, .int .i64 y7] rfl rfl (World.news_of_block (heap_alloc_new wc _)) (actCells_one ⟨y0, y1, y2, y3, y4, y5, y6, y7⟩) (by omega) (by unfold maxLen; omega) (by omega) (by simp; omega) (wc.heap.size + 1) (by simp) ?_)
            intro gn cn w3 hown3 hg3 hat3 hlt3
            have HB3 := ghid ((HBW.out.alloc hzc (.cells #[.int .i64 y0, .int .i64 y1, .int .i64 y2, .int .i64 y3, .int .i64 y4, .string y5, .string y6, .int .i64 y7] 40)).grown hg3 (by simp; omega) (fun j hj => (OWN.out.lt j hj).1))
            have HW3 : Hid (w3.ownsRow w.heap.size 40 8 (.slice (some ⟨gn, 0, none⟩) (k + 1) cn) (k + 1) (flatG actCells (actsK xs (k + 1) m))) := by
              unfold Hid
              rw [HN.out]
              exact hown3
            clear hown3 hg3 hat3 hlt3 HBW OWN HN
            go_wp2
            go_roundw
            case rel => exact ⟨k + 1, some ⟨gn, 0, none⟩, cn, by omega, by omega, by go_num, rfl, HW3.out, HB3.out⟩
            case measure => simp [intOf]; omega
      · have e : actsK xs most m = actsK xs k m := by
          have : k = most := by omega
          rw [this]
        have hltm : ¬ (k : Int) < (most : Int) := by omega
        clear hown hb
        go_wp2
        go_ret
        refine ⟨co, cc, k, rfl, ?_, HW.out, HB.out⟩
        unfold actsK
        rw [List.length_map, List.length_take]
        omega
    · have e : actsK xs most m = actsK xs k m := by
        have : k = xs.length := by omega
        unfold actsK
        rw [List.take_of_length_le (by omega), List.take_of_length_le (by omega)]
      have hltI : ¬ (k : Int) < (xs.length : Int) := by omega
      clear hown hb
      go_wp2
      go_ret
      refine ⟨co, cc, k, rfl, ?_, HW.out, HB.out⟩
      unfold actsK
      rw [List.length_map, List.length_take]
      omega

end Go.Proofs.YtijilhbdbeajjaaGreatDoor

namespace Go.Proofs.YtijilhbdbeajjaaGreatDoor

open Go.RowKit

/-- The cells of a call that waits. -/
def waitCells (x : WaitD) : List Value := [.int .i64 x.seq, .int .i64 x.kind, .string x.a, .string x.b, .int .i64 x.n]

theorem waitCells_len (x : WaitD) : (waitCells x).length = 5 := rfl

theorem waitCells_one (x : WaitD) : ∀ v ∈ waitCells x, v.oneCell' = true := by
  intro v hv
  simp only [waitCells, List.mem_cons, List.not_mem_nil, or_false] at hv
  rcases hv with rfl | rfl | rfl | rfl | rfl <;> rfl

/-- The call x lies at ⟨b, o, none⟩. -/
def WaitAt (w : World) (b o : Nat) (x : WaitD) : Prop :=
  w.cell? ⟨b, o, none⟩ = some (.int .i64 x.seq) ∧ w.cell? ⟨b, o + 1, none⟩ = some (.int .i64 x.kind) ∧ w.cell? ⟨b, o + 2, none⟩ = some (.string x.a) ∧ w.cell? ⟨b, o + 3, none⟩ = some (.string x.b) ∧ w.cell? ⟨b, o + 4, none⟩ = some (.int .i64 x.n) ∧
    x.a.size ≤ 140737488351232 ∧ x.b.size ≤ 140737488351232 ∧ TagB 156 w b

/-- The value v reads in w as the calls ws; all their memory lies below block B. -/
def WaitsR (w : World) (B : Nat) (v : Value) (ws : List WaitD) : Prop :=
  ∃ ao cap, v = .slice ao ws.length cap ∧ ws.length ≤ cap ∧ ws.length * 56 ≤ 140737488351232 ∧ (ao = none → cap = 0) ∧
    (0 < ws.length → ∃ b off, ao = some ⟨b, off, none⟩ ∧ b < B ∧ ∀ (i : Nat) (x : WaitD), ws[i]? = some x → WaitAt w b (off + i * 5) x)

theorem WaitAt.below {w w' : World} {B b o : Nat} {x : WaitD} (h : WaitAt w b o x) (hlt : b < B) (hb : Below B w w') : WaitAt w' b o x := by
  obtain ⟨c0, c1, c2, c3, c4, s1, s2, hs⟩ := h
  have key : ∀ o', w'.cell? ⟨b, o', none⟩ = w.cell? ⟨b, o', none⟩ := fun o' => hb.cell (p := ⟨b, o', none⟩) hlt
  exact ⟨(key _).trans c0, (key _).trans c1, (key _).trans c2, (key _).trans c3, (key _).trans c4, s1, s2, hs.block (hb.block b hlt)⟩

theorem WaitsR.below {w w' : World} {B : Nat} {v : Value} {xs : List WaitD} (h : WaitsR w B v xs) {B' : Nat} (hb : Below B' w w') (hB : B ≤ B') : WaitsR w' B v xs := by
  obtain ⟨ao, cap, rfl, h1, h2, h3, h4⟩ := h
  refine ⟨ao, cap, rfl, h1, h2, h3, fun hp => ?_⟩
  obtain ⟨b, off, rfl, hlt, hc⟩ := h4 hp
  exact ⟨b, off, rfl, hlt, fun i x hx => (hc i x hx).below (by omega) hb⟩

theorem WaitsR.mono {w : World} {B B' : Nat} {v : Value} {xs : List WaitD} (h : WaitsR w B v xs) (hB : B ≤ B') : WaitsR w B' v xs := by
  obtain ⟨ao, cap, rfl, h1, h2, h3, h4⟩ := h
  refine ⟨ao, cap, rfl, h1, h2, h3, fun hp => ?_⟩
  obtain ⟨b, off, rfl, hlt, hc⟩ := h4 hp
  exact ⟨b, off, rfl, by omega, hc⟩

theorem WaitsR.len {w : World} {B : Nat} {v : Value} {xs : List WaitD} (h : WaitsR w B v xs) : xs.length * 56 ≤ 140737488351232 := by
  obtain ⟨_, _, _, _, h2, _⟩ := h
  exact h2

theorem WaitsR.slice {w : World} {B : Nat} {v : Value} {xs : List WaitD} (h : WaitsR w B v xs) : ∃ ao cap, v = .slice ao xs.length cap := by
  obtain ⟨ao, cap, rfl, -⟩ := h
  exact ⟨ao, cap, rfl⟩

theorem WaitsR.nil (w : World) (B : Nat) : WaitsR w B (.slice none 0 0) [] := ⟨none, 0, rfl, Nat.le_refl _, by simp, fun _ => rfl, fun h => absurd h (by simp)⟩

/-- Texts that are not too long for any machine. -/
def ModestW (ws : List WaitD) : Prop := ∀ x ∈ ws, x.a.size ≤ 140737488351232 ∧ x.b.size ≤ 140737488351232

theorem WaitsR.modest {w : World} {B : Nat} {v : Value} {ws : List WaitD} (h : WaitsR w B v ws) : ModestW ws := by
  obtain ⟨ao, cap, rfl, h1, h2, h3, h4⟩ := h
  intro x hx
  obtain ⟨i, hi⟩ := List.mem_iff_getElem?.1 hx
  obtain ⟨b, off, rfl, hlt, hc⟩ := h4 (by have := (List.getElem?_eq_some_iff.1 hi).1; omega)
  exact ⟨(hc i x hi).2.2.2.2.2.1, (hc i x hi).2.2.2.2.2.2.1⟩

/-- The value v reads in w as the client c. -/
def CustR (w : World) (B : Nat) (v : Value) (c : CustD) : Prop := ∃ wv, v = .agg #[.int .i64 c.id, .int .i64 c.session, .int .i64 c.next, wv] ∧ WaitsR w B wv c.waits

theorem CustR.below {w w' : World} {B : Nat} {v : Value} {c : CustD} (h : CustR w B v c) {B' : Nat} (hb : Below B' w w') (hB : B ≤ B') : CustR w' B v c := by
  obtain ⟨wv, rfl, h1⟩ := h
  exact ⟨wv, rfl, h1.below hb hB⟩

theorem CustR.mono {w : World} {B B' : Nat} {v : Value} {c : CustD} (h : CustR w B v c) (hB : B ≤ B') : CustR w B' v c := by
  obtain ⟨wv, rfl, h1⟩ := h
  exact ⟨wv, rfl, h1.mono hB⟩

theorem CustR.shape {w : World} {B : Nat} {v : Value} {c : CustD} (h : CustR w B v c) : ∃ ao cap, v = .agg #[.int .i64 c.id, .int .i64 c.session, .int .i64 c.next, .slice ao c.waits.length cap] ∧ WaitsR w B (.slice ao c.waits.length cap) c.waits := by
  obtain ⟨wv, rfl, h1⟩ := h
  obtain ⟨ao, cap, rfl⟩ := h1.slice
  exact ⟨ao, cap, rfl, h1⟩

/-- A client's value, its cells as letters. -/
theorem CustR.raw {w : World} {B : Nat} {v : Value} {c : CustD} (h : CustR w B v c) : ∃ (id se nx : Int) (ao : Option Addr) (n cap : Nat), v = .agg #[.int .i64 id, .int .i64 se, .int .i64 nx, .slice ao n cap] := by
  obtain ⟨ao, cap, rfl, -⟩ := h.shape
  exact ⟨_, _, _, _, _, _, rfl⟩

theorem CustR.zero (w : World) (B : Nat) : CustR w B (.agg #[.int .i64 0, .int .i64 0, .int .i64 0, .slice none 0 0]) CustD.zero := ⟨_, rfl, WaitsR.nil _ _⟩

theorem Tryz.infoWait : (Tryz.prog.info? 156).map (fun i => (i.zero, i.size, i.bytes)) = some (some (.agg #[.int .i64 0, .int .i64 0, .string ⟨#[]⟩, .string ⟨#[]⟩, .int .i64 0]), 5, 56) := by kernel_rfl

theorem zset4 {B : Nat} {w0 w : World} (h : Below B w0 w) {b : Nat} (hb : B ≤ b) (a0 a1 a2 a3 : Value) : Below B w0 ((((w.setCell ⟨b, 0, none⟩ a0).setCell ⟨b, 1, none⟩ a1).setCell ⟨b, 2, none⟩ a2).setCell ⟨b, 3, none⟩ a3) :=
  (((h.setCell (by simpa using hb) a0).setCell (by simpa using hb) a1).setCell (by simpa using hb) a2).setCell (by simpa using hb) a3

/-- A row of calls of a call's own. -/
theorem waits_row_reads {w : World} {base B : Nat} {v : Value} {ws : List WaitD} (h : w.ownsRow base 156 5 v ws.length (flatG waitCells ws)) (hl : ws.length * 56 ≤ 140737488351232) (hm : ModestW ws) (hB : w.heap.size ≤ B) : WaitsR w B v ws := by
  rcases h.2 with ⟨rfl, hn⟩ | ⟨g, cap, cur, rfl, _, hg, hle, hcm, hcs, htake⟩
  · have : ws = [] := List.eq_nil_of_length_eq_zero hn
    subst this
    exact WaitsR.nil _ _
  · refine ⟨some ⟨g, 0, none⟩, cap, rfl, hle, hl, (by intro h; cases h), fun _ => ⟨g, 0, rfl, ?_, fun i x hx => ?_⟩⟩
    · have := (h.lt g rfl).2; omega
    · have hi : i < ws.length := (List.getElem?_eq_some_iff.1 hx).1
      have key : ∀ j, j < 5 → w.cell? ⟨g, 0 + i * 5 + j, none⟩ = (waitCells x)[j]? := fun j hj => by
        rw [Nat.zero_add, h.cellAt (i * 5 + j) (by omega), flatG_at waitCells_len hx j hj]
      have hx2 := hm x (List.mem_of_getElem? hx)
      exact ⟨by simpa [waitCells] using key 0 (by omega), by simpa [waitCells] using key 1 (by omega), by simpa [waitCells] using key 2 (by omega), by simpa [waitCells] using key 3 (by omega), by simpa [waitCells] using key 4 (by omega), hx2.1, hx2.2, TagB.of hg⟩

end Go.Proofs.YtijilhbdbeajjaaGreatDoor

namespace Go.Proofs.YtijilhbdbeajjaaGreatDoor

open Go.RowKit

/-- The value v is the client c; its calls lie in memory of the call's own. -/
def CustO (w : World) (base : Nat) (v : Value) (c : CustD) : Prop :=
  ∃ vo vc, v = .agg #[.int .i64 c.id, .int .i64 c.session, .int .i64 c.next, .slice vo c.waits.length vc] ∧ w.ownsRow base 156 5 (.slice vo c.waits.length vc) c.waits.length (flatG waitCells c.waits) ∧ c.waits.length * 56 ≤ 140737488351232 ∧ ModestW c.waits

theorem CustO.reads {w : World} {base : Nat} {v : Value} {c : CustD} (h : CustO w base v c) : CustR w w.heap.size v c := by
  obtain ⟨vo, vc, rfl, h1, h2, h3⟩ := h
  exact ⟨_, rfl, waits_row_reads h1 h2 h3 (Nat.le_refl _)⟩

theorem CustO.keep {w w' : World} {base base' : Nat} {v : Value} {c : CustD} (h : CustO w base v c) (hb : base' ≤ base) (hk : ∀ j, base ≤ j → j < w.heap.size → w'.heap[j]? = w.heap[j]?) : CustO w' base' v c := by
  obtain ⟨vo, vc, rfl, h1, h2, h3⟩ := h
  exact ⟨vo, vc, rfl, grow_mono (grow_keep h1 fun j hj => hk j (h1.lt j hj).1 (h1.lt j hj).2) hb, h2, h3⟩

theorem CustO.zero (w : World) (base : Nat) : CustO w base (.agg #[.int .i64 0, .int .i64 0, .int .i64 0, .slice none 0 0]) .zero :=
  ⟨none, 0, rfl, World.ownsRow_nil _ _ _ _, by show 0 * 56 ≤ _; omega, fun x hx => absurd hx (by simp [CustD.zero])⟩

/-- A client put into a block of its type that lies ahead of its calls. -/
theorem CustO.put4 {w : World} {base m p : Nat} {v : Value} {c : CustD} (h : CustO w base v c) (hp : p < base) (hm : m ≤ base) (a0 a1 a2 a3 : Value) : CustO ((((w.setCell ⟨p, 0, none⟩ a0).setCell ⟨p, 1, none⟩ a1).setCell ⟨p, 2, none⟩ a2).setCell ⟨p, 3, none⟩ a3) m v c :=
  h.keep hm fun j hj _ => by
    rw [heap_setCell_other _ _ _ _ (by simp; omega), heap_setCell_other _ _ _ _ (by simp; omega), heap_setCell_other _ _ _ _ (by simp; omega), heap_setCell_other _ _ _ _ (by simp; omega)]

theorem set4c {w : World} {p : Nat} {x0 x1 x2 x3 : Value} {t : TypeId} (h : w.heap[p]? = some (.cells #[x0, x1, x2, x3] t (0, 0))) (a0 a1 a2 a3 : Value) :
    ((((w.setCell ⟨p, 0, none⟩ a0).setCell ⟨p, 1, none⟩ a1).setCell ⟨p, 2, none⟩ a2).setCell ⟨p, 3, none⟩ a3).heap[p]? = some (.cells #[a0, a1, a2, a3] t (0, 0)) := by
  rw [heap_set (heap_set (heap_set (heap_set h _) _) _) _]
  rfl

theorem modest_sub {ws us : List WaitD} (h : ModestW ws) (hs : ∀ x ∈ us, x ∈ ws) : ModestW us := fun x hx => h x (hs x hx)

end Go.Proofs.YtijilhbdbeajjaaGreatDoor

namespace Go.Proofs.YtijilhbdbeajjaaGreatDoor

open Go.RowKit

/-- R holds of w, and of each world that differs from it only in blocks of K, and new ones. -/
def FirmK (K : Nat → Prop) (w : World) (R : World → Prop) : Prop := ∀ u, TouchG w u K → R u

theorem FirmK.now {K : Nat → Prop} {w : World} {R : World → Prop} (h : FirmK K w R) : R w := h w (TouchG.refl _ _)

theorem TouchG.sub {w w' : World} {S K : Nat → Prop} (h : TouchG w w' S) (hs : ∀ g, g < w.heap.size → S g → K g) : TouchG w w' K :=
  ⟨h.os, h.tape, h.output, h.size, fun k hk hn => h.block k hk fun e => hn (hs k hk e)⟩

theorem FirmK.move {K K' S : Nat → Prop} {w w' : World} {R : World → Prop} (h : FirmK K w R) (ht : TouchG w w' S) (hs : ∀ g, g < w.heap.size → S g → K g) (hk : ∀ g, g < w.heap.size → K' g → K g) : FirmK K' w' R :=
  fun u hu => h u ((ht.sub hs).trans hu hk)

theorem Firm.k {K : Nat → Prop} {n : Nat} {w : World} {R : World → Prop} (h : Firm n w R) (hk : ∀ g, g < w.heap.size → K g → g < n ∧ Odd w g) : FirmK K w R :=
  fun u hu => h u (hu.sub hk)

/-- A replica and where its parts lie. -/
structure RepV where
  d : RepD
  eo : Option Addr
  lo : Option Addr
  po : Option Addr
  so : Option Addr
  ec : Nat
  ln : Nat
  lc : Nat
  pn : Nat
  pc : Nat
  sn : Nat
  sc : Nat

def repCells (x : RepV) : List Value := [.int .i64 x.d.log.base, .slice x.eo x.d.log.ents.length x.ec, .string x.d.snap, .int .i64 x.d.state.index, .slice x.lo x.ln x.lc, .slice x.po x.pn x.pc, .slice x.so x.sn x.sc]

def RepV.val (x : RepV) : Value := .agg #[.int .i64 x.d.log.base, .slice x.eo x.d.log.ents.length x.ec, .string x.d.snap, .int .i64 x.d.state.index, .slice x.lo x.ln x.lc, .slice x.po x.pn x.pc, .slice x.so x.sn x.sc]

theorem repCells_len (x : RepV) : (repCells x).length = 7 := rfl

theorem RepR.v {w : World} {B : Nat} {v : Value} {r : RepD} (h : RepR w B v r) : ∃ x : RepV, v = x.val ∧ x.d = r := by
  obtain ⟨eo, lo, po, so, ec, ln, lc, pn, pc, sn, sc, rfl, -⟩ := h
  exact ⟨⟨r, eo, lo, po, so, ec, ln, lc, pn, pc, sn, sc⟩, rfl, rfl⟩

/-- A client and where its calls lie. -/
structure CustV where
  d : CustD
  wo : Option Addr
  wc : Nat

def custCells (x : CustV) : List Value := [.int .i64 x.d.id, .int .i64 x.d.session, .int .i64 x.d.next, .slice x.wo x.d.waits.length x.wc]

def CustV.val (x : CustV) : Value := .agg #[.int .i64 x.d.id, .int .i64 x.d.session, .int .i64 x.d.next, .slice x.wo x.d.waits.length x.wc]

theorem custCells_len (x : CustV) : (custCells x).length = 4 := rfl

theorem mailCells_len (x : MailD) : (mailCells x).length = 5 := rfl

/-- What lies at an element of a row. -/
theorem grow_at {α : Type} {c : α → List Value} {m : Nat} (hc : ∀ x, (c x).length = m) {w : World} {base g n cap : Nat} {e : TypeId} {xs : List α} (h : w.ownsRow base e m (.slice (some ⟨g, 0, none⟩) n cap) n (flatG c xs)) (hn : n = xs.length) {k : Nat} {x : α} (hx : xs[k]? = some x) (j : Nat) (hj : j < m) : w.cell? ⟨g, k * m + j, none⟩ = (c x)[j]? := by
  have hk := (List.getElem?_eq_some_iff.1 hx).1
  have hm : k * m + j < n * m := by
    have : (k + 1) * m ≤ n * m := Nat.mul_le_mul_right _ (by omega)
    rw [Nat.add_mul] at this
    omega
  rw [h.cellAt _ hm, flatG_at hc hx j hj]

/-- Cells put one behind another. -/
def putN (w : World) (g : Nat) : Nat → List Value → World
  | _, [] => w
  | o, a :: r => putN (w.setCell ⟨g, o, none⟩ a) g (o + 1) r

theorem putN_touch (g : Nat) : ∀ (l : List Value) (o : Nat) (w : World), TouchG w (putN w g o l) (fun b => b = g)
  | [], _, _ => TouchG.refl _ _
  | a :: r, o, w => ((TouchG.refl w (fun b => b = g)).setCell (a := ⟨g, o, none⟩) (Or.inl rfl) a).trans (putN_touch g r (o + 1) _) fun _ _ h => h

def setsL (l : List Value) : Nat → List Value → List Value
  | _, [] => l
  | o, a :: r => setsL (l.set o a) (o + 1) r

theorem setsL_behind (p q : List Value) : ∀ (r : List Value) (o : Nat), setsL (p ++ q) (p.length + o) r = p ++ setsL q o r
  | [], _ => rfl
  | a :: r, o => by
    show setsL ((p ++ q).set (p.length + o) a) (p.length + o + 1) r = p ++ setsL (q.set o a) (o + 1) r
    rw [List.set_append_right _ _ (by omega), show p.length + o - p.length = o by omega]
    exact setsL_behind p (q.set o a) r (o + 1)

theorem setsL_all : ∀ (q r s : List Value), q.length = r.length → setsL (q ++ s) 0 r = r ++ s
  | [], [], _, _ => rfl
  | x :: q, a :: r, s, h => by
    show setsL ((x :: (q ++ s)).set 0 a) 1 r = a :: (r ++ s)
    rw [List.set_cons_zero]
    have := setsL_behind [a] (q ++ s) r 0
    simp only [List.length_cons, List.length_nil, Nat.zero_add, Nat.add_zero] at this
    rw [show a :: (q ++ s) = [a] ++ (q ++ s) from rfl, this, setsL_all q r s (by simpa using h)]
    rfl

theorem flatG_sets {α : Type} {c : α → List Value} {m : Nat} (hc : ∀ x, (c x).length = m) {xs : List α} {k : Nat} {x : α} (hx : xs[k]? = some x) (y : α) : setsL (flatG c xs) (k * m) (c y) = flatG c (xs.set k y) := by
  obtain ⟨hk, he⟩ := List.getElem?_eq_some_iff.1 hx
  have e1 : xs = xs.take k ++ (x :: xs.drop (k + 1)) := by
    rw [← he, ← List.drop_eq_getElem_cons hk, List.take_append_drop]
  have e2 : xs.set k y = xs.take k ++ (y :: xs.drop (k + 1)) := by
    rw [List.set_eq_take_append_cons_drop, if_pos hk]
  have hl : (flatG c (xs.take k)).length = k * m := by rw [flatG_length hc, List.length_take, Nat.min_eq_left (by omega)]
  rw [e2, flatG_append, flatG_cons]
  conv => lhs; rw [e1]
  rw [flatG_append, flatG_cons]
  have := setsL_behind (flatG c (xs.take k)) (c x ++ flatG c (xs.drop (k + 1))) (c y) 0
  simp only [Nat.add_zero, hl] at this
  rw [this, setsL_all _ _ _ (by rw [hc, hc])]

theorem heap_putN {g : Nat} {t : TypeId} : ∀ (l : List Value) (o : Nat) (w : World) (cs : Array Value), w.heap[g]? = some (.cells cs t (0, 0)) → (putN w g o l).heap[g]? = some (.cells (setsL cs.toList o l).toArray t (0, 0))
  | [], _, w, cs, h => by simpa [putN, setsL] using h
  | a :: r, o, w, cs, h => by
    have := heap_putN r (o + 1) (w.setCell ⟨g, o, none⟩ a) _ (heap_set h a)
    show (putN (w.setCell ⟨g, o, none⟩ a) g (o + 1) r).heap[g]? = _
    rw [this]
    simp [setsL]

theorem setsL_len : ∀ (r : List Value) (l : List Value) (o : Nat), (setsL l o r).length = l.length
  | [], _, _ => rfl
  | a :: r, l, o => by
    show (setsL (l.set o a) (o + 1) r).length = _
    rw [setsL_len r, List.length_set]

theorem setsL_take (n : Nat) : ∀ (r l : List Value) (o : Nat), (setsL l o r).take n = setsL (l.take n) o r
  | [], _, _ => rfl
  | a :: r, l, o => by
    show (setsL (l.set o a) (o + 1) r).take n = setsL ((l.take n).set o a) (o + 1) r
    rw [setsL_take n r, List.take_set]

/-- An element of a row put anew. -/
theorem row_putN {α : Type} {c : α → List Value} {m : Nat} (hc : ∀ x, (c x).length = m) {w : World} {base g n cap : Nat} {e : TypeId} {xs : List α} (h : w.ownsRow base e m (.slice (some ⟨g, 0, none⟩) n cap) n (flatG c xs)) {k : Nat} {x : α} (hx : xs[k]? = some x) (y : α) : (putN w g (k * m) (c y)).ownsRow base e m (.slice (some ⟨g, 0, none⟩) n cap) n (flatG c (xs.set k y)) := by
  rcases h.2 with ⟨h', _⟩ | ⟨g', cap', cur, h', hg, hh, hle, hcm, hcs, htk⟩
  · cases h'
  simp only [Value.slice.injEq, Option.some.injEq, Addr.mk.injEq, and_true, true_and] at h'
  obtain ⟨rfl, rfl⟩ := h'
  refine ⟨?_, Or.inr ⟨g, cap, _, rfl, hg, heap_putN _ _ _ _ hh, hle, hcm, ?_, ?_⟩⟩
  · rw [← h.1, flatG_length hc, flatG_length hc, List.length_set]
  · rw [List.size_toArray, setsL_len, Array.length_toList, hcs]
  · show (setsL cur.toList (k * m) (c y)).take (n * m) = _
    rw [setsL_take, htk, flatG_sets hc hx]

/-- The town lies in block p, of type ty, behind it what the tail tells (but for its head: a block that is kept beside it); K: all its blocks. -/
structure TownM (ty : TypeId) (tl : List Value) (w : World) (p : Nat) (K : Nat → Prop) (rv cv mv tv : Value) (xs : List RepV) (cs : List CustV) (t : TownD) : Prop where
  cells : w.heap[p]? = some (.cells ([rv, cv, mv, tv, .int .i64 t.leader] ++ tl.drop 2).toArray ty (0, 0))
  kdef : ∀ g, K g ↔ g = p ∨ rv.ownBlock = some g ∨ cv.ownBlock = some g ∨ mv.ownBlock = some g ∨ tv.ownBlock = some g ∨ ∃ v ∈ tl, v.ownBlock = some g
  reps : w.ownsRow 0 50 7 rv 3 (flatG repCells xs)
  custs : w.ownsRow 0 55 4 cv cs.length (flatG custCells cs)
  mails : w.ownsRow 0 92 5 mv t.mails.length (flatG mailCells t.mails)
  comm : w.ownsRow 0 9 1 tv t.comm.length (textCells t.comm)
  tags : ∀ v ∈ tl, ∀ g, v.ownBlock = some g → ∃ c e fr, w.heap[g]? = some (.cells c e fr) ∧ (e = 33 ∨ e = 32)
  apart : ∀ v ∈ tl, v.ownBlock ≠ some p
  rlist : xs.map (·.d) = t.reps
  clist : cs.map (·.d) = t.custs
  three : t.reps.length = 3
  rparts : ∀ (k : Nat) (x : RepV), xs[k]? = some x → FirmK K w (fun u => RepR u u.heap.size x.val x.d)
  cparts : ∀ (k : Nat) (x : CustV), cs[k]? = some x → FirmK K w (fun u => CustR u u.heap.size x.val x.d)
  modest : ∀ x ∈ t.comm, x.size ≤ 140737488351232
  small : ∀ m ∈ t.mails, m.reply.text.size ≤ 140737488351232

/-- The town's own type is none of its rows'. -/
def OddT (ty : TypeId) : Prop := ty ≠ 89 ∧ ty ≠ 168 ∧ ty ≠ 121 ∧ ty ≠ 82 ∧ ty ≠ 3 ∧ ty ≠ 50 ∧ ty ≠ 55 ∧ ty ≠ 92 ∧ ty ≠ 9 ∧ ty ≠ 156 ∧ ty ≠ 33

section

variable {ty : TypeId} {tl : List Value} {w w' : World} {p : Nat} {K : Nat → Prop} {rv cv mv tv : Value} {xs : List RepV} {cs : List CustV} {t : TownD}

/-- A row's block and its type. -/
theorem grow_tag {base e size n : Nat} {v : Value} {ys : List Value} (h : w.ownsRow base e size v n ys) {g : Nat} (hg : v.ownBlock = some g) : ∃ c, w.heap[g]? = some (.cells c e (0, 0)) := by
  rcases h.2 with ⟨rfl, _⟩ | ⟨g', cap', cur, rfl, _, hh, _⟩
  · cases hg
  · simp only [Value.ownBlock, Option.some.injEq] at hg
    subst hg
    exact ⟨_, hh⟩

/-- The type of each of the town's blocks. -/
theorem TownM.kind (h : TownM ty tl w p K rv cv mv tv xs cs t) {g : Nat} (hg : K g) : ∃ c e fr, w.heap[g]? = some (.cells c e fr) ∧ ((g = p ∧ e = ty) ∨ (rv.ownBlock = some g ∧ e = 50) ∨ (cv.ownBlock = some g ∧ e = 55) ∨ (mv.ownBlock = some g ∧ e = 92) ∨ (tv.ownBlock = some g ∧ e = 9) ∨ ((∃ v ∈ tl, v.ownBlock = some g) ∧ (e = 33 ∨ e = 32))) := by
  rcases (h.kdef g).1 hg with rfl | e | e | e | e | ⟨v, hv, e⟩
  · exact ⟨_, _, _, h.cells, .inl ⟨rfl, rfl⟩⟩
  · obtain ⟨c, hc⟩ := grow_tag h.reps e; exact ⟨_, _, _, hc, .inr (.inl ⟨e, rfl⟩)⟩
  · obtain ⟨c, hc⟩ := grow_tag h.custs e; exact ⟨_, _, _, hc, .inr (.inr (.inl ⟨e, rfl⟩))⟩
  · obtain ⟨c, hc⟩ := grow_tag h.mails e; exact ⟨_, _, _, hc, .inr (.inr (.inr (.inl ⟨e, rfl⟩)))⟩
  · obtain ⟨c, hc⟩ := grow_tag h.comm e; exact ⟨_, _, _, hc, .inr (.inr (.inr (.inr (.inl ⟨e, rfl⟩))))⟩
  · obtain ⟨c, e', fr, hc, he⟩ := h.tags v hv g e; exact ⟨_, _, _, hc, .inr (.inr (.inr (.inr (.inr ⟨⟨v, hv, e⟩, he⟩))))⟩

theorem TownM.lt (h : TownM ty tl w p K rv cv mv tv xs cs t) {g : Nat} (hg : K g) : g < w.heap.size := by
  obtain ⟨c, e, fr, hc, -⟩ := h.kind hg
  exact (Array.getElem?_eq_some_iff.1 hc).1

theorem TownM.odd (h : TownM ty tl w p K rv cv mv tv xs cs t) (ho : OddT ty) {g : Nat} (hg : K g) : Odd w g := by
  obtain ⟨c, e, fr, hc, he⟩ := h.kind hg
  refine ⟨c, e, fr, hc, ?_⟩
  rcases he with ⟨-, rfl⟩ | ⟨-, rfl⟩ | ⟨-, rfl⟩ | ⟨-, rfl⟩ | ⟨-, rfl⟩ | ⟨-, rfl | rfl⟩
  · exact ⟨ho.1, ho.2.1, ho.2.2.1, ho.2.2.2.1, ho.2.2.2.2.1⟩
  all_goals exact ⟨by decide, by decide, by decide, by decide, by decide⟩

/-- A client in memory of a call's own, told anew by K. -/
theorem CustO.firmK {base : Nat} {v : Value} {c : CustD} (hc : CustO w' base v c) (hb : ∀ g, K g → g < base) : FirmK K w' (fun u => CustR u u.heap.size v c) :=
  fun _ hu => (hc.keep (Nat.le_refl _) fun j hj hl => hu.block j hl fun hk => by have := hb j hk; omega).reads

/-- New blocks alone. -/
theorem TownM.below (h : TownM ty tl w p K rv cv mv tv xs cs t) (hb : Below w.heap.size w w') : TownM ty tl w' p K rv cv mv tv xs cs t where
  cells := (hb.block _ (h.lt ((h.kdef p).2 (.inl rfl)))).trans h.cells
  kdef := h.kdef
  reps := grow_below h.reps hb (Nat.le_refl _)
  custs := grow_below h.custs hb (Nat.le_refl _)
  mails := grow_below h.mails hb (Nat.le_refl _)
  comm := grow_below h.comm hb (Nat.le_refl _)
  tags := fun v hv g hg => by
    obtain ⟨c, e, fr, hc, he⟩ := h.tags v hv g hg
    exact ⟨c, e, fr, (hb.block _ (Array.getElem?_eq_some_iff.1 hc).1).trans hc, he⟩
  apart := h.apart
  rlist := h.rlist
  clist := h.clist
  three := h.three
  rparts := fun k x hx => (h.rparts k x hx).move (TouchG.of_below hb (Nat.le_refl _) (fun _ => False)) (fun _ _ e => e.elim) (fun _ _ e => e)
  cparts := fun k x hx => (h.cparts k x hx).move (TouchG.of_below hb (Nat.le_refl _) (fun _ => False)) (fun _ _ e => e.elim) (fun _ _ e => e)
  modest := h.modest
  small := h.small

/-- A replica of the town. -/
theorem TownM.rep (h : TownM ty tl w p K rv cv mv tv xs cs t) {k : Nat} (hk : k < 3) : ∃ x, xs[k]? = some x ∧ x.d = t.rep k ∧ RepR w w.heap.size x.val (t.rep k) := by
  have hl : xs.length = 3 := by have := congrArg List.length h.rlist; rw [List.length_map, h.three] at this; exact this
  obtain ⟨x, hx⟩ : ∃ x, xs[k]? = some x := ⟨_, List.getElem?_eq_getElem (by omega)⟩
  have e : x.d = t.rep k := by
    have := congrArg (fun l : List RepD => l[k]?) h.rlist
    simp only [List.getElem?_map, hx, Option.map_some] at this
    unfold TownD.rep
    rw [List.getD_eq_getElem?_getD, ← this]
    rfl
  exact ⟨x, hx, e, e ▸ (h.rparts k x hx).now⟩

/-- A client of the town. -/
theorem TownM.cust (h : TownM ty tl w p K rv cv mv tv xs cs t) {k : Nat} {c : CustD} (hk : t.custs[k]? = some c) : ∃ x, cs[k]? = some x ∧ x.d = c ∧ CustR w w.heap.size x.val c := by
  rw [← h.clist, List.getElem?_map, Option.map_eq_some_iff] at hk
  obtain ⟨x, hx, rfl⟩ := hk
  exact ⟨x, hx, rfl, (h.cparts k x hx).now⟩

theorem TownM.clen (h : TownM ty tl w p K rv cv mv tv xs cs t) : cs.length = t.custs.length := by rw [← h.clist, List.length_map]

/-- The row of replicas. -/
theorem TownM.rrow (h : TownM ty tl w p K rv cv mv tv xs cs t) : ∃ g cap, rv = .slice (some ⟨g, 0, none⟩) 3 cap ∧ 3 ≤ cap ∧ K g := by
  obtain ⟨g, cap, rfl, -, -, h3⟩ := grow_some h.reps (by omega)
  exact ⟨g, cap, rfl, h3, (h.kdef g).2 (.inr (.inl rfl))⟩

/-- Rows of other types than a block that is turned. -/
theorem grow_other {base e size n : Nat} {v : Value} {ys : List Value} (h : w.ownsRow base e size v n ys) {g : Nat} {c : Array Value} {e' : TypeId} {fr : Nat × Nat} (hg : w.heap[g]? = some (.cells c e' fr)) (hne : e ≠ e') (ht : TouchG w w' (fun b => b = g)) : w'.ownsRow base e size v n ys :=
  grow_keep h fun b hb => ht.block b (h.lt b hb).2 fun e => by
    subst e
    obtain ⟨c', hc⟩ := grow_tag h hb
    rw [hc] at hg
    simp only [Option.some.injEq, Obj.cells.injEq] at hg
    exact hne hg.2.1

/-- A block of other type than the town's own, turned: what is left of the town. -/
theorem TownM.tagsOf (h : TownM ty tl w p K rv cv mv tv xs cs t) {g : Nat} {c : Array Value} {e' : TypeId} {fr : Nat × Nat} (hg : w.heap[g]? = some (.cells c e' fr)) (h1 : e' ≠ 33) (h2 : e' ≠ 32) (ht : TouchG w w' (fun b => b = g)) : ∀ v ∈ tl, ∀ g, v.ownBlock = some g → ∃ c e fr, w'.heap[g]? = some (.cells c e fr) ∧ (e = 33 ∨ e = 32) :=
  fun v hv b hb => by
    obtain ⟨c2, e, fr2, hc, he⟩ := h.tags v hv b hb
    refine ⟨c2, e, fr2, (ht.block b (Array.getElem?_eq_some_iff.1 hc).1 fun e2 => ?_).trans hc, he⟩
    subst e2
    rw [hc] at hg
    simp only [Option.some.injEq, Obj.cells.injEq] at hg
    rcases he with rfl | rfl
    · exact h1 hg.2.1.symm
    · exact h2 hg.2.1.symm

theorem TownM.ownOf (h : TownM ty tl w p K rv cv mv tv xs cs t) {g : Nat} {c : Array Value} {e' : TypeId} {fr : Nat × Nat} (hg : w.heap[g]? = some (.cells c e' fr)) (hne : ty ≠ e') (ht : TouchG w w' (fun b => b = g)) : w'.heap[p]? = some (.cells ([rv, cv, mv, tv, .int .i64 t.leader] ++ tl.drop 2).toArray ty (0, 0)) :=
  (ht.block p (h.lt ((h.kdef p).2 (.inl rfl))) fun e => by
    subst e
    have := h.cells
    rw [this] at hg
    simp only [Option.some.injEq, Obj.cells.injEq] at hg
    exact hne hg.2.1).trans h.cells

/-- A replica put anew. -/
theorem TownM.putRep (h : TownM ty tl w p K rv cv mv tv xs cs t) (ho : OddT ty) {g cap k : Nat} (hv : rv = .slice (some ⟨g, 0, none⟩) 3 cap) (hk : k < 3) {y : RepV} (hy : FirmK K w (fun u => RepR u u.heap.size y.val y.d)) : TownM ty tl (putN w g (k * 7) (repCells y)) p K rv cv mv tv (xs.set k y) cs (t.setRep k y.d) := by
  subst hv
  obtain ⟨x, hx, -⟩ := h.rep hk
  have ht := putN_touch g (repCells y) (k * 7) w
  obtain ⟨c, hg⟩ := grow_tag h.reps (g := g) rfl
  have hkg : K g := (h.kdef g).2 (.inr (.inl rfl))
  have mv' : ∀ {R : World → Prop}, FirmK K w R → FirmK K (putN w g (k * 7) (repCells y)) R := fun hR => hR.move ht (fun _ _ e => e ▸ hkg) (fun _ _ e => e)
  refine ⟨h.ownOf hg ho.2.2.2.2.2.1 ht, h.kdef, row_putN repCells_len h.reps hx y, grow_other h.custs hg (by decide) ht, grow_other h.mails hg (by decide) ht, grow_other h.comm hg (by decide) ht, h.tagsOf hg (by decide) (by decide) ht, h.apart, ?_, h.clist, ?_, fun j z hz => ?_, fun j z hz => mv' (h.cparts j z hz), h.modest, h.small⟩
  · show (xs.set k y).map (·.d) = t.reps.set k y.d
    rw [List.map_set, h.rlist]
  · show (t.reps.set k y.d).length = 3
    rw [List.length_set, h.three]
  · rw [List.getElem?_set] at hz
    by_cases e : k = j
    · rw [if_pos e] at hz
      split at hz
      · cases hz; exact mv' hy
      · cases hz
    · rw [if_neg e] at hz
      exact mv' (h.rparts j z hz)

/-- A client put anew. -/
theorem TownM.putCust (h : TownM ty tl w p K rv cv mv tv xs cs t) (ho : OddT ty) {g cap n k : Nat} {x y : CustV} (hv : cv = .slice (some ⟨g, 0, none⟩) n cap) (hx : cs[k]? = some x) (hy : FirmK K w (fun u => CustR u u.heap.size y.val y.d)) : TownM ty tl (putN w g (k * 4) (custCells y)) p K rv cv mv tv xs (cs.set k y) (t.setCust k y.d) := by
  subst hv
  have hcu := h.custs
  have hn : n = cs.length := by
    rcases hcu.2 with ⟨e, -⟩ | ⟨_, _, _, e, -⟩
    · cases e
    · simp only [Value.slice.injEq] at e
      exact e.2.1
  subst hn
  have ht := putN_touch g (custCells y) (k * 4) w
  obtain ⟨c, hg⟩ := grow_tag h.custs (g := g) rfl
  have hkg : K g := (h.kdef g).2 (.inr (.inr (.inl rfl)))
  have mv' : ∀ {R : World → Prop}, FirmK K w R → FirmK K (putN w g (k * 4) (custCells y)) R := fun hR => hR.move ht (fun _ _ e => e ▸ hkg) (fun _ _ e => e)
  refine ⟨h.ownOf hg ho.2.2.2.2.2.2.1 ht, h.kdef, grow_other h.reps hg (by decide) ht, ?_, grow_other h.mails hg (by decide) ht, grow_other h.comm hg (by decide) ht, h.tagsOf hg (by decide) (by decide) ht, h.apart, h.rlist, ?_, h.three, fun j z hz => mv' (h.rparts j z hz), fun j z hz => ?_, h.modest, h.small⟩
  · rw [List.length_set]
    exact row_putN custCells_len h.custs hx y
  · show (cs.set k y).map (·.d) = t.custs.set k y.d
    rw [List.map_set, h.clist]
  · rw [List.getElem?_set] at hz
    by_cases e : k = j
    · rw [if_pos e] at hz
      split at hz
      · cases hz; exact mv' hy
      · cases hz
    · rw [if_neg e] at hz
      exact mv' (h.cparts j z hz)

/-- The town's own block turned: its blocks may be others, which are new. -/
theorem TownM.own (h : TownM ty tl w p K rv cv mv tv xs cs t) (ho : OddT ty) {S K' : Nat → Prop} {w0 : World} {mv' tv' : Value} {ms : List MailD} {cm : List ByteArray} {ld : Nat} (ht : TouchG w w0 S) (hS : ∀ g, g < w.heap.size → S g → mv.ownBlock = some g ∨ tv.ownBlock = some g)
    (hm : w0.ownsRow 0 92 5 mv' ms.length (flatG mailCells ms)) (hc : w0.ownsRow 0 9 1 tv' cm.length (textCells cm)) (hms : ∀ m ∈ ms, m.reply.text.size ≤ 140737488351232) (hcs : ∀ x ∈ cm, x.size ≤ 140737488351232)
    (hm' : ∀ g, g < w.heap.size → mv'.ownBlock = some g → mv.ownBlock = some g) (hc' : ∀ g, g < w.heap.size → tv'.ownBlock = some g → tv.ownBlock = some g)
    (hk : ∀ g, K' g ↔ g = p ∨ rv.ownBlock = some g ∨ cv.ownBlock = some g ∨ mv'.ownBlock = some g ∨ tv'.ownBlock = some g ∨ ∃ v ∈ tl, v.ownBlock = some g) (hw : TouchG w0 w' (fun b => b = p)) (hcell : w'.heap[p]? = some (.cells ([rv, cv, mv', tv', .int .i64 ld] ++ tl.drop 2).toArray ty (0, 0))) : TownM ty tl w' p K' rv cv mv' tv' xs cs { t with mails := ms, comm := cm, leader := ld } := by
  have hp : p < w.heap.size := h.lt ((h.kdef p).2 (.inl rfl))
  have hkk : ∀ g, g < w.heap.size → K' g → K g := fun g hg e => (h.kdef g).2 (by
    rcases (hk g).1 e with e | e | e | e | e | e
    · exact .inl e
    · exact .inr (.inl e)
    · exact .inr (.inr (.inl e))
    · exact .inr (.inr (.inr (.inl (hm' g hg e))))
    · exact .inr (.inr (.inr (.inr (.inl (hc' g hg e)))))
    · exact .inr (.inr (.inr (.inr (.inr e)))))
  have hSK : ∀ g, g < w.heap.size → S g → K g := fun g hg e => (h.kdef g).2 (by
    rcases hS g hg e with e | e
    · exact .inr (.inr (.inr (.inl e)))
    · exact .inr (.inr (.inr (.inr (.inl e)))))
  have hSp : ¬ S p := fun e => by
    rcases hS p hp e with e | e
    · obtain ⟨c, hc⟩ := grow_tag h.mails e
      rw [h.cells] at hc
      simp only [Option.some.injEq, Obj.cells.injEq] at hc
      exact ho.2.2.2.2.2.2.2.1 hc.2.1
    · obtain ⟨c, hc⟩ := grow_tag h.comm e
      rw [h.cells] at hc
      simp only [Option.some.injEq, Obj.cells.injEq] at hc
      exact ho.2.2.2.2.2.2.2.2.1 hc.2.1
  have hp0 : w0.heap[p]? = some (.cells ([rv, cv, mv, tv, .int .i64 t.leader] ++ tl.drop 2).toArray ty (0, 0)) := (ht.block p hp hSp).trans h.cells
  have htt : TouchG w w' K := (ht.sub hSK).trans hw fun g _ e => e ▸ (h.kdef p).2 (.inl rfl)
  have mvf : ∀ {R : World → Prop}, FirmK K w R → FirmK K' w' R := fun hR => hR.move htt (fun _ _ e => e) hkk
  have key : ∀ {e size n : Nat} {v : Value} {ys : List Value}, w.ownsRow 0 e size v n ys → e ≠ 92 → e ≠ 9 → e ≠ ty → w'.ownsRow 0 e size v n ys := fun hr h1 h2 h3 => by
    refine grow_other (grow_keep hr fun b hb => ht.block b (hr.lt b hb).2 fun e => ?_) hp0 h3 hw
    obtain ⟨c, hc⟩ := grow_tag hr hb
    rcases hS b (hr.lt b hb).2 e with e | e
    · obtain ⟨c', hc'⟩ := grow_tag h.mails e
      rw [hc] at hc'
      simp only [Option.some.injEq, Obj.cells.injEq] at hc'
      exact h1 hc'.2.1
    · obtain ⟨c', hc'⟩ := grow_tag h.comm e
      rw [hc] at hc'
      simp only [Option.some.injEq, Obj.cells.injEq] at hc'
      exact h2 hc'.2.1
  refine ⟨hcell, hk, key h.reps (by decide) (by decide) ho.2.2.2.2.2.1.symm, key h.custs (by decide) (by decide) ho.2.2.2.2.2.2.1.symm, grow_other hm hp0 ho.2.2.2.2.2.2.2.1.symm hw, grow_other hc hp0 ho.2.2.2.2.2.2.2.2.1.symm hw, fun v hv g hg => ?_, h.apart, h.rlist, h.clist, h.three, fun k x hx => mvf (h.rparts k x hx), fun k x hx => mvf (h.cparts k x hx), hcs, hms⟩
  obtain ⟨c2, e2, fr2, hc2, he2⟩ := h.tags v hv g hg
  have hgl := (Array.getElem?_eq_some_iff.1 hc2).1
  have hnS : ¬ S g := fun e => by
    rcases hS g hgl e with e | e
    · obtain ⟨c, hc⟩ := grow_tag h.mails e
      rw [hc2] at hc
      simp only [Option.some.injEq, Obj.cells.injEq] at hc
      rcases he2 with rfl | rfl
      · exact absurd hc.2.1 (by decide)
      · exact absurd hc.2.1 (by decide)
    · obtain ⟨c, hc⟩ := grow_tag h.comm e
      rw [hc2] at hc
      simp only [Option.some.injEq, Obj.cells.injEq] at hc
      rcases he2 with rfl | rfl
      · exact absurd hc.2.1 (by decide)
      · exact absurd hc.2.1 (by decide)
  have h0 := (ht.block g hgl hnS).trans hc2
  exact ⟨c2, e2, fr2, (hw.block g (by have := ht.size; omega) fun e => h.apart v hv (e ▸ hg)).trans h0, he2⟩

end

/-- The town lies in block p; K: all its blocks. -/
def TownE (ty : TypeId) (tl : List Value) (w : World) (p : Nat) (K : Nat → Prop) (t : TownD) : Prop := ∃ rv cv mv tv xs cs, TownM ty tl w p K rv cv mv tv xs cs t

/-- What a call leaves of the town: it is t now; nothing else was turned. -/
def MovedE (ty : TypeId) (tl : List Value) (w w' : World) (p : Nat) (K : Nat → Prop) (t : TownD) : Prop :=
  ∃ K', TownE ty tl w' p K' t ∧ (∀ g, K' g → K g ∨ w.heap.size ≤ g) ∧ TouchG w w' (fun g => K g ∧ ¬ ∃ v ∈ tl, v.ownBlock = some g)

theorem TownE.below {ty : TypeId} {tl : List Value} {w w' : World} {p : Nat} {K : Nat → Prop} {t : TownD} (h : TownE ty tl w p K t) (hb : Below w.heap.size w w') : TownE ty tl w' p K t := by
  obtain ⟨rv, cv, mv, tv, xs, cs, h⟩ := h
  exact ⟨rv, cv, mv, tv, xs, cs, h.below hb⟩

theorem MovedE.same {ty : TypeId} {tl : List Value} {w w' : World} {p : Nat} {K : Nat → Prop} {t : TownD} (h : TownE ty tl w p K t) (hb : Below w.heap.size w w') : MovedE ty tl w w' p K t :=
  ⟨K, h.below hb, fun _ e => .inl e, TouchG.of_below hb (Nat.le_refl _) _⟩

/-- Behind new blocks. -/
theorem MovedE.behind {ty : TypeId} {tl : List Value} {w w1 w' : World} {p : Nat} {K : Nat → Prop} {t : TownD} (h : MovedE ty tl w1 w' p K t) (hb : Below w.heap.size w w1) : MovedE ty tl w w' p K t := by
  obtain ⟨K', h1, h2, h3⟩ := h
  exact ⟨K', h1, fun g e => (h2 g e).imp id fun e => Nat.le_trans hb.size e, (TouchG.of_below hb (Nat.le_refl _) _).trans h3 fun _ _ e => e⟩

theorem MovedE.ahead {ty : TypeId} {tl : List Value} {w w1 w' : World} {p : Nat} {K : Nat → Prop} {t : TownD} (h : MovedE ty tl w w1 p K t) (hb : Below w1.heap.size w1 w') : MovedE ty tl w w' p K t := by
  obtain ⟨K', h1, h2, h3⟩ := h
  exact ⟨K', h1.below hb, h2, h3.trans (TouchG.of_below hb (Nat.le_refl _) (fun _ => False)) fun _ _ e => e.elim⟩

/-- What follows what moved. -/
theorem MovedE.next {ty : TypeId} {tl : List Value} {w w1 w' : World} {p : Nat} {K K1 : Nat → Prop} {t' : TownD} (h' : MovedE ty tl w1 w' p K1 t') (h2 : ∀ g, K1 g → K g ∨ w.heap.size ≤ g) (h3 : TouchG w w1 (fun g => K g ∧ ¬ ∃ v ∈ tl, v.ownBlock = some g)) : MovedE ty tl w w' p K t' := by
  obtain ⟨K2, k1, k2, k3⟩ := h'
  refine ⟨K2, k1, fun g e => ?_, h3.trans k3 fun g hg e => ⟨?_, e.2⟩⟩
  · rcases k2 g e with e | e
    · exact h2 g e
    · exact .inr (Nat.le_trans h3.size e)
  · rcases h2 g e.1 with e | e
    · exact e
    · omega

end Go.Proofs.YtijilhbdbeajjaaGreatDoor

namespace Go.Proofs.YtijilhbdbeajjaaGreatDoor

open Go.RowKit

theorem isPlaceR_any (ao : Option Addr) (n cap : Nat) (i : Int) (w : World) :
    Calls Tryz.prog 106 #[.slice ao n cap, .int .i64 i] w fun e w' => e = .returned (.bool (decide (0 ≤ i ∧ i < n))) ∧ w' = w := by
  by_cases h0 : 0 ≤ i
  · by_cases h1 : i < n
    · rw [show decide (0 ≤ i ∧ i < (n : Int)) = true from decide_eq_true ⟨h0, h1⟩]
      go_enter Tryz.func106, Tryz.ntmps106
      go_wp2
      go_ret
      exact ⟨rfl, rfl⟩
    · rw [show decide (0 ≤ i ∧ i < (n : Int)) = false from decide_eq_false fun e => h1 e.2]
      go_enter Tryz.func106, Tryz.ntmps106
      go_wp2
      go_ret
      exact ⟨rfl, rfl⟩
  · rw [show decide (0 ≤ i ∧ i < (n : Int)) = false from decide_eq_false fun e => h0 e.1]
    go_enter Tryz.func106, Tryz.ntmps106
    go_wp2
    go_ret
    exact ⟨rfl, rfl⟩

theorem isPlaceC_any (ao : Option Addr) (n cap : Nat) (i : Int) (w : World) :
    Calls Tryz.prog 102 #[.slice ao n cap, .int .i64 i] w fun e w' => e = .returned (.bool (decide (0 ≤ i ∧ i < n))) ∧ w' = w := by
  by_cases h0 : 0 ≤ i
  · by_cases h1 : i < n
    · rw [show decide (0 ≤ i ∧ i < (n : Int)) = true from decide_eq_true ⟨h0, h1⟩]
      go_enter Tryz.func102, Tryz.ntmps102
      go_wp2
      go_ret
      exact ⟨rfl, rfl⟩
    · rw [show decide (0 ≤ i ∧ i < (n : Int)) = false from decide_eq_false fun e => h1 e.2]
      go_enter Tryz.func102, Tryz.ntmps102
      go_wp2
      go_ret
      exact ⟨rfl, rfl⟩
  · rw [show decide (0 ≤ i ∧ i < (n : Int)) = false from decide_eq_false fun e => h0 e.1]
    go_enter Tryz.func102, Tryz.ntmps102
    go_wp2
    go_ret
    exact ⟨rfl, rfl⟩

theorem isPlaceM_any (ao : Option Addr) (n cap : Nat) (i : Int) (w : World) :
    Calls Tryz.prog 112 #[.slice ao n cap, .int .i64 i] w fun e w' => e = .returned (.bool (decide (0 ≤ i ∧ i < n))) ∧ w' = w := by
  by_cases h0 : 0 ≤ i
  · by_cases h1 : i < n
    · rw [show decide (0 ≤ i ∧ i < (n : Int)) = true from decide_eq_true ⟨h0, h1⟩]
      go_enter Tryz.func112, Tryz.ntmps112
      go_wp2
      go_ret
      exact ⟨rfl, rfl⟩
    · rw [show decide (0 ≤ i ∧ i < (n : Int)) = false from decide_eq_false fun e => h1 e.2]
      go_enter Tryz.func112, Tryz.ntmps112
      go_wp2
      go_ret
      exact ⟨rfl, rfl⟩
  · rw [show decide (0 ≤ i ∧ i < (n : Int)) = false from decide_eq_false fun e => h0 e.1]
    go_enter Tryz.func112, Tryz.ntmps112
    go_wp2
    go_ret
    exact ⟨rfl, rfl⟩

section

variable {ty : TypeId} {tl : List Value} {w : World} {p : Nat} {K : Nat → Prop} {rv cv mv tv : Value} {xs : List RepV} {cs : List CustV} {t : TownD}

theorem FirmK.draw {R : World → Prop} (h : FirmK K w R) {w' : World} (hb : Below w.heap.size w w') : FirmK K w' R :=
  h.move (TouchG.of_below hb (Nat.le_refl _) (fun _ => False)) (fun _ _ e => e.elim) (fun _ _ e => e)

/-- The row of clients, where there is one. -/
theorem TownM.crow (h : TownM ty tl w p K rv cv mv tv xs cs t) {k : Nat} {c : CustD} (hk : t.custs[k]? = some c) : ∃ g cap, cv = .slice (some ⟨g, 0, none⟩) cs.length cap ∧ k < cs.length := by
  have hl := (List.getElem?_eq_some_iff.1 hk).1
  rw [← h.clen] at hl
  obtain ⟨g, cap, rfl, -⟩ := grow_some h.custs (by omega)
  exact ⟨g, cap, rfl, hl⟩

theorem TownM.notTail (h : TownM ty tl w p K rv cv mv tv xs cs t) {g : Nat} {c : Array Value} {e : TypeId} {fr : Nat × Nat} (hg : w.heap[g]? = some (.cells c e fr)) (h1 : e ≠ 33) (h2 : e ≠ 32) : ¬ ∃ v ∈ tl, v.ownBlock = some g :=
  fun ⟨v, hv, e⟩ => by
    obtain ⟨c2, e2, fr2, hc, he⟩ := h.tags v hv g e
    rw [hc] at hg
    simp only [Option.some.injEq, Obj.cells.injEq] at hg
    rcases he with rfl | rfl
    · exact h1 hg.2.1.symm
    · exact h2 hg.2.1.symm

theorem TownM.selfTail (h : TownM ty tl w p K rv cv mv tv xs cs t) : ¬ ∃ v ∈ tl, v.ownBlock = some p := fun ⟨v, hv, e⟩ => h.apart v hv e

/-- A replica put anew: it moved. -/
theorem TownM.movedR (h : TownM ty tl w p K rv cv mv tv xs cs t) (ho : OddT ty) {g cap k : Nat} (hv : rv = .slice (some ⟨g, 0, none⟩) 3 cap) (hk : k < 3) {y : RepV} (hy : FirmK K w (fun u => RepR u u.heap.size y.val y.d)) : MovedE ty tl w (putN w g (k * 7) (repCells y)) p K (t.setRep k y.d) := by
  have hkg : K g := (h.kdef g).2 (.inr (.inl (by rw [hv]; rfl)))
  obtain ⟨c, hg⟩ := grow_tag h.reps (g := g) (by rw [hv]; rfl)
  refine ⟨K, ⟨_, _, _, _, _, _, h.putRep ho hv hk hy⟩, fun _ e => .inl e, (putN_touch g (repCells y) (k * 7) w).sub fun b _ e => ?_⟩
  subst e
  exact ⟨hkg, h.notTail hg (by decide) (by decide)⟩

theorem TownM.movedC (h : TownM ty tl w p K rv cv mv tv xs cs t) (ho : OddT ty) {g cap n k : Nat} {x y : CustV} (hv : cv = .slice (some ⟨g, 0, none⟩) n cap) (hx : cs[k]? = some x) (hy : FirmK K w (fun u => CustR u u.heap.size y.val y.d)) : MovedE ty tl w (putN w g (k * 4) (custCells y)) p K (t.setCust k y.d) := by
  have hkg : K g := (h.kdef g).2 (.inr (.inr (.inl (by rw [hv]; rfl))))
  obtain ⟨c, hg⟩ := grow_tag h.custs (g := g) (by rw [hv]; rfl)
  refine ⟨K, ⟨_, _, _, _, _, _, h.putCust ho hv hx hy⟩, fun _ e => .inl e, (putN_touch g (custCells y) (k * 4) w).sub fun b _ e => ?_⟩
  subst e
  exact ⟨hkg, h.notTail hg (by decide) (by decide)⟩

/-- The cells of a replica of the town. -/
theorem TownM.rcells (h : TownM ty tl w p K rv cv mv tv xs cs t) {g cap k : Nat} (hv : rv = .slice (some ⟨g, 0, none⟩) 3 cap) {x : RepV} (hx : xs[k]? = some x) :
    w.cell? ⟨g, k * 7, none⟩ = some (.int .i64 x.d.log.base) ∧ w.cell? ⟨g, k * 7 + 1, none⟩ = some (.slice x.eo x.d.log.ents.length x.ec) ∧ w.cell? ⟨g, k * 7 + 2, none⟩ = some (.string x.d.snap) ∧ w.cell? ⟨g, k * 7 + 3, none⟩ = some (.int .i64 x.d.state.index) ∧ w.cell? ⟨g, k * 7 + 4, none⟩ = some (.slice x.lo x.ln x.lc) ∧ w.cell? ⟨g, k * 7 + 5, none⟩ = some (.slice x.po x.pn x.pc) ∧ w.cell? ⟨g, k * 7 + 6, none⟩ = some (.slice x.so x.sn x.sc) ∧ (∀ j, w.frozen? ⟨g, j, none⟩ = false) ∧ g < w.heap.size := by
  subst hv
  have hl : xs.length = 3 := by have := congrArg List.length h.rlist; rw [List.length_map, h.three] at this; exact this
  have key := fun j hj => grow_at repCells_len h.reps hl.symm hx j hj
  exact ⟨key 0 (by omega), key 1 (by omega), key 2 (by omega), key 3 (by omega), key 4 (by omega), key 5 (by omega), key 6 (by omega), fun j => h.reps.frozenAt j, (h.reps.lt g rfl).2⟩

theorem TownM.ccells (h : TownM ty tl w p K rv cv mv tv xs cs t) {g cap n k : Nat} (hv : cv = .slice (some ⟨g, 0, none⟩) n cap) {x : CustV} (hx : cs[k]? = some x) :
    w.cell? ⟨g, k * 4, none⟩ = some (.int .i64 x.d.id) ∧ w.cell? ⟨g, k * 4 + 1, none⟩ = some (.int .i64 x.d.session) ∧ w.cell? ⟨g, k * 4 + 2, none⟩ = some (.int .i64 x.d.next) ∧ w.cell? ⟨g, k * 4 + 3, none⟩ = some (.slice x.wo x.d.waits.length x.wc) ∧ (∀ j, w.frozen? ⟨g, j, none⟩ = false) ∧ g < w.heap.size ∧ n = cs.length := by
  subst hv
  have hcu := h.custs
  have hn : n = cs.length := by
    rcases hcu.2 with ⟨e, -⟩ | ⟨_, _, _, e, -⟩
    · cases e
    · simp only [Value.slice.injEq] at e
      exact e.2.1
  subst hn
  have key := fun j hj => grow_at custCells_len hcu rfl hx j hj
  exact ⟨key 0 (by omega), key 1 (by omega), key 2 (by omega), key 3 (by omega), fun j => hcu.frozenAt j, (hcu.lt g rfl).2, rfl⟩

theorem putN_rep (w : World) (g o : Nat) (y : RepV) : putN w g o (repCells y) = (((((((w.setCell ⟨g, o, none⟩ (.int .i64 y.d.log.base)).setCell ⟨g, o + 1, none⟩ (.slice y.eo y.d.log.ents.length y.ec)).setCell ⟨g, o + 2, none⟩ (.string y.d.snap)).setCell ⟨g, o + 3, none⟩ (.int .i64 y.d.state.index)).setCell ⟨g, o + 4, none⟩ (.slice y.lo y.ln y.lc)).setCell ⟨g, o + 5, none⟩ (.slice y.po y.pn y.pc)).setCell ⟨g, o + 6, none⟩ (.slice y.so y.sn y.sc)) := rfl

theorem putN_cust (w : World) (g o : Nat) (y : CustV) : putN w g o (custCells y) = ((((w.setCell ⟨g, o, none⟩ (.int .i64 y.d.id)).setCell ⟨g, o + 1, none⟩ (.int .i64 y.d.session)).setCell ⟨g, o + 2, none⟩ (.int .i64 y.d.next)).setCell ⟨g, o + 3, none⟩ (.slice y.wo y.d.waits.length y.wc)) := rfl

set_option maxRecDepth 100000 in
set_option maxHeartbeats 1600000 in
theorem keepR_ok (h : TownM ty tl w p K rv cv mv tv xs cs t) (ho : OddT ty) {g cap k : Nat} (hv : rv = .slice (some ⟨g, 0, none⟩) 3 cap) (hk : k < 3) {y : RepV} (hy : FirmK K w (fun u => RepR u u.heap.size y.val y.d)) :
    Calls Tryz.prog 156 #[.pointer (some ⟨g, k * 7, none⟩), y.val, .int .i64 0] w fun e w' => e = .returned (.int .i64 0) ∧ MovedE ty tl w w' p K (t.setRep k y.d) := by
  obtain ⟨x, hx, -⟩ := h.rep hk
  obtain ⟨c0, c1, c2, c3, c4, c5, c6, cf, hlt⟩ := h.rcells hv hx
  have HM := ghid (h.movedR ho hv hk hy)
  rw [putN_rep] at HM
  clear hv hy h
  unfold RepV.val
  go_enter Tryz.func156, Tryz.ntmps156
  go_wp2
  go_ret
  exact ⟨rfl, HM.out.ahead ((Below.refl _ _).alloc (Nat.le_refl _) _)⟩

set_option maxRecDepth 100000 in
set_option maxHeartbeats 1600000 in
theorem keepR_bad (a : Addr) (y : RepV) (e0 : Int) (he : e0 ≠ 0) (w : World) :
    Calls Tryz.prog 156 #[.pointer (some a), y.val, .int .i64 e0] w fun e w' => e = .returned (.int .i64 e0) ∧ Below w.heap.size w w' := by
  have heb : (e0 == 0) = false := by simpa using he
  unfold RepV.val
  go_enter Tryz.func156, Tryz.ntmps156
  go_wp2
  go_ret
  exact ⟨rfl, (Below.refl _ _).alloc (Nat.le_refl _) _⟩

set_option maxRecDepth 100000 in
set_option maxHeartbeats 1600000 in
theorem keepC_ok (h : TownM ty tl w p K rv cv mv tv xs cs t) (ho : OddT ty) {g cap n k : Nat} {x y : CustV} (hv : cv = .slice (some ⟨g, 0, none⟩) n cap) (hx : cs[k]? = some x) (hy : FirmK K w (fun u => CustR u u.heap.size y.val y.d)) :
    Calls Tryz.prog 149 #[.pointer (some ⟨g, k * 4, none⟩), y.val, .int .i64 0] w fun e w' => e = .returned (.int .i64 0) ∧ MovedE ty tl w w' p K (t.setCust k y.d) := by
  obtain ⟨c0, c1, c2, c3, cf, hlt, -⟩ := h.ccells hv hx
  have HM := ghid (h.movedC ho hv hx hy)
  rw [putN_cust] at HM
  clear hv hy h
  unfold CustV.val
  go_enter Tryz.func149, Tryz.ntmps149
  go_wp2
  go_ret
  exact ⟨rfl, HM.out.ahead ((Below.refl _ _).alloc (Nat.le_refl _) _)⟩

set_option maxRecDepth 100000 in
set_option maxHeartbeats 1600000 in
theorem keepC_bad (a : Addr) (y : CustV) (e0 : Int) (he : e0 ≠ 0) (w : World) :
    Calls Tryz.prog 149 #[.pointer (some a), y.val, .int .i64 e0] w fun e w' => e = .returned (.int .i64 e0) ∧ Below w.heap.size w w' := by
  have heb : (e0 == 0) = false := by simpa using he
  unfold CustV.val
  go_enter Tryz.func149, Tryz.ntmps149
  go_wp2
  go_ret
  exact ⟨rfl, (Below.refl _ _).alloc (Nat.le_refl _) _⟩

end

end Go.Proofs.YtijilhbdbeajjaaGreatDoor

namespace Go.Proofs.YtijilhbdbeajjaaGreatDoor

open Go.RowKit

/-- Entries that are committed, behind them the leader's. -/
def TownD.due (t : TownD) : List ByteArray := t.comm ++ t.lead.log.ents.drop (t.comm.length - t.lead.log.base.toNat)

/-- How many entries agree. -/
def sameN : List ByteArray → List ByteArray → Nat
  | x :: a, y :: b => if x = y then sameN a b + 1 else 0
  | _, _ => 0

theorem sameN_le : ∀ a b : List ByteArray, sameN a b ≤ a.length ∧ sameN a b ≤ b.length
  | [], _ => by simp [sameN]
  | _ :: _, [] => by simp [sameN]
  | x :: a, y :: b => by
    unfold sameN
    have := sameN_le a b
    split <;> simp <;> omega

/-- So many agree: those ahead do, the next ones don't. -/
theorem sameN_of : ∀ (a b : List ByteArray) (k : Nat), k ≤ a.length → k ≤ b.length → (∀ j, j < k → a[j]? = b[j]?) → (k = a.length ∨ k = b.length ∨ a[k]? ≠ b[k]?) → sameN a b = k
  | [], b, k, h1, _, _, _ => by simp at h1; subst h1; simp [sameN]
  | x :: a, [], k, _, h2, _, _ => by simp at h2; subst h2; simp [sameN]
  | x :: a, y :: b, 0, _, _, _, h4 => by
    unfold sameN
    rw [if_neg]
    rintro rfl
    rcases h4 with h | h | h
    · simp at h
    · simp at h
    · exact h rfl
  | x :: a, y :: b, k + 1, h1, h2, h3, h4 => by
    have e : x = y := by simpa using h3 0 (by omega)
    unfold sameN
    rw [if_pos e, sameN_of a b k (by simpa using h1) (by simpa using h2) (fun j hj => by simpa using h3 (j + 1) (by omega)) (by simpa using h4)]

theorem agree_same (f : Nat → Option ByteArray) (d : List ByteArray) : ∀ (l : List ByteArray) (i : Nat), (∀ j, i ≤ j → f (j + 1) = d[j]?) → agreeT f i l = i + sameN l (d.drop i)
  | [], i, _ => by simp [agreeT, sameN]
  | x :: r, i, h => by
    unfold agreeT
    have ih := agree_same f d r (i + 1) (fun j hj => h j (by omega))
    rw [h i (Nat.le_refl _)]
    cases hd : d[i]? with
    | none =>
      rw [if_neg (by simp), List.drop_of_length_le (List.getElem?_eq_none_iff.1 hd)]
      rfl
    | some y =>
      obtain ⟨hlt, he⟩ := List.getElem?_eq_some_iff.1 hd
      rw [List.drop_eq_getElem_cons hlt, he]
      unfold sameN
      by_cases e : x = y
      · rw [if_pos (by rw [e]), if_pos e, ih]
        omega
      · rw [if_neg (by simpa using fun h => e h.symm), if_neg e]
        omega

section

variable {t : TownD} {n : Nat}

theorem must_due (h : TownR t n) (i : Nat) : t.must (i + 1) = t.due[i]? := by
  obtain ⟨bl, il, hl⟩ := h.reps t.leader h.lead
  have hl0 : RepT t.comm n t.lead bl il := hl
  have hlow := hl0.low
  have hdone := hl0.done
  unfold TownD.must TownD.due
  rw [hl0.base]
  simp only [Int.toNat_natCast]
  by_cases hi : i + 1 ≤ t.comm.length
  · rw [if_pos hi, List.getElem?_append_left (by omega)]
    rfl
  · rw [if_neg hi, if_pos (by omega), List.getElem?_append_right (by omega), List.getElem?_drop]
    congr 1
    omega

/-- How far a replica is right, as the code counts it. -/
theorem right_due (h : TownR t n) (r : RepD) : t.right r = r.log.base.toNat + sameN r.log.ents (t.due.drop r.log.base.toNat) :=
  agree_same t.must t.due r.log.ents _ fun j _ => must_due h j

theorem due_len (h : TownR t n) : t.comm.length ≤ t.due.length ∧ t.due.length ≤ n := by
  obtain ⟨bl, il, hl⟩ := h.reps t.leader h.lead
  have hl0 : RepT t.comm n t.lead bl il := hl
  have h1 := hl0.low
  have h2 := hl0.done
  have h3 := hl0.top
  have h4 := h.few
  unfold TownD.due
  rw [List.length_append, List.length_drop, hl0.base]
  simp only [Int.toNat_natCast]
  omega

theorem due_commit1 (h : TownR t n) {k : Nat} (hk : k < 3) : (t.commit1 k).due = t.due := by
  obtain ⟨h1, -⟩ := h.commit1 hk
  apply List.ext_getElem?
  intro i
  rw [← must_due h1, ← must_due h, must_commit1 h hk (by omega)]

theorem comm_due (t : TownD) : t.comm = t.due.take t.comm.length := by
  unfold TownD.due
  rw [List.take_left]

/-- Up to where all is committed, replica by replica. -/
def TownD.uptoK (t : TownD) : Nat → Nat
  | 0 => t.comm.length
  | k + 1 => if k = t.leader then t.uptoK k else max (t.uptoK k) (t.right (t.rep k))

theorem commit_due (h : TownR t n) : t.commit = { t with comm := t.due.take (t.uptoK 3) } := by
  obtain ⟨h0, a0, b0, c0, d0, ⟨x0, e0⟩, f0⟩ := h.commit1 (k := 0) (by omega)
  obtain ⟨h1, a1, b1, c1, d1, ⟨x1, e1⟩, f1⟩ := h0.commit1 (k := 1) (by omega)
  obtain ⟨h2, a2, b2, c2, d2, ⟨x2, e2⟩, f2⟩ := h1.commit1 (k := 2) (by omega)
  have r1 : (t.commit1 0).right ((t.commit1 0).rep 1) = t.right (t.rep 1) := by
    unfold TownD.rep
    rw [a0]
    exact agreeT_congr (fun _ hi => must_commit1 h (by omega) hi) _ _
  have r2 : ((t.commit1 0).commit1 1).right (((t.commit1 0).commit1 1).rep 2) = t.right (t.rep 2) := by
    unfold TownD.rep
    rw [a1, a0]
    refine (agreeT_congr (fun _ hi => must_commit1 h0 (by omega) hi) _ _).trans (agreeT_congr (fun _ hi => must_commit1 h (by omega) hi) _ _)
  have l0 : (t.commit1 0).comm.length = t.uptoK 1 := by
    unfold TownD.uptoK TownD.uptoK
    by_cases e : 0 = t.leader
    · rw [if_pos e]
      unfold TownD.commit1
      rw [if_pos e]
    · rw [if_neg e, f0 e]
  have l1 : ((t.commit1 0).commit1 1).comm.length = t.uptoK 2 := by
    rw [show t.uptoK 2 = if 1 = t.leader then t.uptoK 1 else max (t.uptoK 1) (t.right (t.rep 1)) from rfl]
    by_cases e : 1 = t.leader
    · rw [if_pos e]
      rw [show (t.commit1 0).commit1 1 = t.commit1 0 from if_pos (e.trans d0.symm), l0]
    · rw [if_neg e, f1 (by rw [d0]; exact e), l0, r1]
  have l2 : t.commit.comm.length = t.uptoK 3 := by
    show (((t.commit1 0).commit1 1).commit1 2).comm.length = _
    rw [show t.uptoK 3 = if 2 = t.leader then t.uptoK 2 else max (t.uptoK 2) (t.right (t.rep 2)) from rfl]
    by_cases e : 2 = t.leader
    · rw [if_pos e]
      rw [show ((t.commit1 0).commit1 1).commit1 2 = (t.commit1 0).commit1 1 from if_pos (e.trans (d1.trans d0).symm), l1]
    · rw [if_neg e, f2 (by rw [d1, d0]; exact e), l1, r2]
  have hd : t.commit.due = t.due := (due_commit1 h1 (k := 2) (by omega)).trans ((due_commit1 h0 (k := 1) (by omega)).trans (due_commit1 h (k := 0) (by omega)))
  have hc := comm_due t.commit
  have hc' : t.commit.comm = t.due.take (t.uptoK 3) := by
    rw [← l2, ← hd]
    exact hc
  have hr : t.commit.reps = t.reps := a2.trans (a1.trans a0)
  have hcu : t.commit.custs = t.custs := b2.trans (b1.trans b0)
  have hm : t.commit.mails = t.mails := c2.trans (c1.trans c0)
  have hl : t.commit.leader = t.leader := d2.trans (d1.trans d0)
  generalize t.commit = u at *
  obtain ⟨ur, uc, um, ucm, ul⟩ := u
  simp only at hc' hr hcu hm hl
  subst hc' hr hcu hm hl
  rfl

theorem uptoK_ge (t : TownD) : ∀ k, t.comm.length ≤ t.uptoK k
  | 0 => Nat.le_refl _
  | k + 1 => by
    have := uptoK_ge t k
    unfold TownD.uptoK
    split <;> omega

theorem uptoK_le (h : TownR t n) : ∀ k, k ≤ 3 → t.uptoK k ≤ t.due.length
  | 0, _ => (due_len h).1
  | k + 1, hk => by
    have h1 := uptoK_le h k (by omega)
    obtain ⟨b, i, hr⟩ := h.reps k (by omega)
    have hc := due_len h
    have h2 : t.right (t.rep k) ≤ t.due.length := by
      rw [right_due h, hr.base]
      simp only [Int.toNat_natCast]
      have := (sameN_le (t.rep k).log.ents (t.due.drop b)).2
      rw [List.length_drop] at this
      have := hr.low
      have := hr.done
      omega
    unfold TownD.uptoK
    split <;> omega

/-- What the code puts behind what is committed. -/
theorem commit_more (h : TownR t n) : t.commit.comm = t.comm ++ (t.due.drop t.comm.length).take (t.uptoK 3 - t.comm.length) := by
  rw [commit_due h]
  have h1 := uptoK_ge t 3
  show t.due.take _ = _
  rw [show t.uptoK 3 = t.comm.length + (t.uptoK 3 - t.comm.length) by omega, List.take_add, ← comm_due t]
  congr 2
  omega

end

end Go.Proofs.YtijilhbdbeajjaaGreatDoor

namespace Go.Proofs.YtijilhbdbeajjaaGreatDoor

open Go.RowKit

/-- The log's block, behind a callee. -/
theorem box_after {w w1 : World} {o : Obj} (hb1 : Below (w.heap.size + 1) (w.alloc o) w1) : w1.heap[w.heap.size]? = some o ∧ Below w.heap.size w w1 :=
  ⟨(hb1.block _ (by omega)).trans (heap_alloc_new w o), ((Below.refl w.heap.size w).alloc (Nat.le_refl _) o).trans (hb1.mono (by omega))⟩

/-- A row of two blocks ahead of a callee: the log, the result. -/
theorem boxes_after {w w1 : World} {o r : Obj} (hb1 : Below (w.heap.size + 1 + 1) ((w.alloc o).alloc r) w1) : w1.heap[w.heap.size]? = some o ∧ w1.heap[w.heap.size + 1]? = some r ∧ Below w.heap.size w w1 := by
  obtain ⟨h1, h2⟩ := two_newB hb1
  exact ⟨h2, h1, (((Below.refl w.heap.size w).alloc (Nat.le_refl _) o).alloc (by simp) r).trans (hb1.mono (by omega))⟩

end Go.Proofs.YtijilhbdbeajjaaGreatDoor

namespace Go.Proofs.YtijilhbdbeajjaaGreatDoor

open Go.RowKit

set_option maxRecDepth 100000 in
set_option maxHeartbeats 1600000 in
theorem behind_new (v : Value) (l : LogD) (i m : Int) (w : World) (B : Nat) (hv : LogR w B v l) (hB : B ≤ w.heap.size) (hi : -9223372036854775808 ≤ i ∧ i ≤ 9223372036854775807) (hm : -9223372036854775808 ≤ m ∧ m ≤ 9223372036854775807) :
    Calls Tryz.prog 199 #[v, .int .i64 i, .int .i64 m] w fun e w' => ∃ v', e = .returned (.tuple #[v', .int .i64 (behindE l i m)]) ∧ NewR w.heap.size w' (fun u => TextsR u u.heap.size v' (behindL l i m)) ∧ Below w.heap.size w w' := by
  have HV := ghid hv
  obtain ⟨eo, ec, rfl, ht⟩ := hv.shape
  have hbx : Below w.heap.size w (w.alloc (.cells #[.int .i64 l.base, .slice eo l.ents.length ec] 43)) := (Below.refl _ _).alloc (Nat.le_refl _) _
  have CC := ghid (logCheck_any _ l (w.alloc (.cells #[.int .i64 l.base, .slice eo l.ents.length ec] 43)) B (hv.below hbx hB) (by have := hbx.size; omega))
  clear hv ht hbx
  by_cases h0 : logE l = 0
  · obtain ⟨⟨hb0, hb1, hln⟩, -⟩ := logE_zero h0
    rw [h0] at CC
    obtain ⟨base, ts⟩ := l
    simp only at CC HV hb0 hb1 hln ⊢
    have HE0 := ghid h0
    clear h0
    by_cases h1 : i < base
    · have HE : Hid (behindE ⟨base, ts⟩ i m = 2) := by
        unfold Hid behindE
        rw [HE0.out, if_neg (by simp), if_pos (Or.inl h1)]
      have HL : Hid (behindL ⟨base, ts⟩ i m = []) := by
        unfold Hid behindL
        rw [if_neg (by rw [HE.out]; decide)]
      rw [HE.out, HL.out]
      go_enter Tryz.func199, Tryz.ntmps199
      go_wp2_with fail
      refine CC.out.mono ?_
      rintro e w1 ⟨rfl, hb⟩
      obtain ⟨hx, hbw⟩ := box_after (by simpa using hb)
      obtain ⟨c0, c1, hcl⟩ := two_cells hx
      have HB := ghid hbw
      clear hb hx hbw CC
      go_wp2
      go_ret2
      exact ⟨_, rfl, NewR.of _ _ fun _ => TextsR.nil _ _, HB.out⟩
    · by_cases h2 : m < 0
      · have HE : Hid (behindE ⟨base, ts⟩ i m = 2) := by
          unfold Hid behindE
          rw [HE0.out, if_neg (by simp), if_pos (Or.inr h2)]
        have HL : Hid (behindL ⟨base, ts⟩ i m = []) := by
          unfold Hid behindL
          rw [if_neg (by rw [HE.out]; decide)]
        rw [HE.out, HL.out]
        go_enter Tryz.func199, Tryz.ntmps199
        go_wp2_with fail
        refine CC.out.mono ?_
        rintro e w1 ⟨rfl, hb⟩
        obtain ⟨hx, hbw⟩ := box_after (by simpa using hb)
        obtain ⟨c0, c1, hcl⟩ := two_cells hx
        have HB := ghid hbw
        clear hb hx hbw CC
        go_wp2
        go_ret2
        exact ⟨_, rfl, NewR.of _ _ fun _ => TextsR.nil _ _, HB.out⟩
      · obtain ⟨k, hk⟩ : ∃ k : Nat, min (i - base) (ts.length : Int) = (k : Int) := ⟨(min (i - base) (ts.length : Int)).toNat, by omega⟩
        have hkl : k ≤ ts.length := by omega
        obtain ⟨q, hq⟩ : ∃ q : Nat, min m ((ts.length - k : Nat) : Int) = (q : Int) := ⟨(min m ((ts.length - k : Nat) : Int)).toNat, by omega⟩
        have hql : q ≤ ts.length - k := by omega
        have HE : Hid (behindE ⟨base, ts⟩ i m = 0) := by
          unfold Hid behindE
          rw [HE0.out, if_neg (by simp), if_neg (by simp only; omega)]
        have HL : Hid (behindL ⟨base, ts⟩ i m = (ts.drop k).take q) := by
          unfold Hid behindL
          rw [if_pos HE.out]
          simp only
          have e1 : ts.drop (i - base).toNat = ts.drop k := by
            by_cases hle : (i - base).toNat ≤ ts.length
            · rw [show (i - base).toNat = k by omega]
            · rw [List.drop_of_length_le (by omega), List.drop_of_length_le (by omega)]
          rw [e1]
          by_cases hle : m.toNat ≤ ts.length - k
          · rw [show m.toNat = q by omega]
          · rw [List.take_of_length_le (by rw [List.length_drop]; omega), List.take_of_length_le (by rw [List.length_drop]; omega)]
        rw [HE.out, HL.out]
        have hec := HV.out.part.cap
        have HM := ghid HV.out.part.sizes
        go_enter Tryz.func199, Tryz.ntmps199
        go_wp2_with fail
        refine CC.out.mono ?_
        rintro e w1 ⟨rfl, hb⟩
        obtain ⟨hx, hbw⟩ := box_after (by simpa using hb)
        obtain ⟨c0, c1, hcl⟩ := two_cells hx
        have HB := ghid hbw
        clear hb hx hbw CC
        go_wp2_with fail
        all_goals
          have htl := (HV.out.part.below HB.out hB).tail (k := k) hkl
          have CJ := ghid (join_one w1 B _ ((ts.drop k).take q) (TextsR.front (k := q) (n := ts.length - k) (by first | exact htl.1 (by assumption) | exact htl.1 rfl | exact htl.2 (by assumption)) (by rw [List.length_drop]; exact hql)) (by have := HB.out.size; omega))
          have HLD : Hid (((ts.drop k).take q).length * 16 ≤ 140737488351232) := (by rw [List.length_take, List.length_drop]; omega : ((ts.drop k).take q).length * 16 ≤ 140737488351232)
          clear htl
          refine CJ.out.mono ?_
          rintro e w3 ⟨vo, vc, rfl, hown, hb3⟩
          have HR1 := ghid (row_new hown (fun t ht => HM.out t (List.mem_of_mem_drop (List.mem_of_mem_take ht))) HLD.out)
          have HB3 := ghid (HB.out.trans (hb3.mono HB.out.size))
          obtain ⟨n3, hn3⟩ : ∃ n3, n3 = ((ts.drop k).take q).length := ⟨_, rfl⟩
          rw [← hn3] at HR1 ⊢
          clear hown hb3 CJ hn3
          go_wp2
          go_ret2
          exact ⟨_, rfl, HR1.out.mono (by have := HB.out.size; omega), HB3.out⟩
  · have HE : Hid (behindE l i m = logE l) := if_pos h0
    have HL : Hid (behindL l i m = []) := by
      unfold Hid behindL
      rw [if_neg (by rw [HE.out]; exact h0)]
    rw [HE.out, HL.out]
    obtain ⟨c, hc⟩ : ∃ c, c = logE l := ⟨_, rfl⟩
    rw [← hc] at CC h0 ⊢
    have hcb : (c != 0) = true := by simpa using h0
    clear h0 hc
    go_enter Tryz.func199, Tryz.ntmps199
    go_wp2_with fail
    refine CC.out.mono ?_
    rintro e w1 ⟨rfl, hb⟩
    obtain ⟨-, hbw⟩ := box_after (by simpa using hb)
    have HB := ghid hbw
    clear hb hbw CC
    go_wp2
    go_ret2
    exact ⟨_, rfl, NewR.of _ _ fun _ => TextsR.nil _ _, HB.out⟩

end Go.Proofs.YtijilhbdbeajjaaGreatDoor
