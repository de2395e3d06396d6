/- A state in a block of its own: what it reads as, and what stores leave of it; Replicas as plain data, and in memory: what a value reads as (joined by program) -/
import Derived.Test.YtbmfahgekcnkaaiRC06
import Derived.Test.YtbmfahgekcnkaaiRC07
import Derived.Test.YtbmfahgekcnkaaiRC01
import Derived.Test.YtbmfahgekcnkaaiRC02
import Derived.Test.YtbmfahgekcnkaaiRC03
namespace Go.Proofs.Ytbmfahgekcnkaai

open Go.RowKit

/-- A block that holds no part of pairs, of sessions, of locks. -/
structure Foreign (w : World) (g : Nat) : Prop where
  pair : ∀ o x, ¬ PairAt w g o x
  kept : ∀ o x, ¬ KeptAt w g o x
  sess : ∀ B o x, ¬ SessAt w B g o x
  kind : ∃ cs t fr, w.heap[g]? = some (.cells cs t fr) ∧ t ≠ 75 ∧ t ≠ 3

theorem touch_cell {w w' : World} {S : Nat → Prop} (ht : TouchG w w' S) {b : Nat} (hb : b < w.heap.size) (hs : ¬ S b) (o : Nat) : w'.cell? ⟨b, o, none⟩ = w.cell? ⟨b, o, none⟩ :=
  World.cell?_of_block (ht.block b hb hs)

theorem PairsR.touch {w w' : World} {B : Nat} {v : Value} {ps : List PairD} {S : Nat → Prop} (h : PairsR w B v ps) (hB : B ≤ w.heap.size) (ht : TouchG w w' S) (hf : ∀ g, g < w.heap.size → S g → Foreign w g) : PairsR w' B v ps := by
  obtain ⟨ao, cap, rfl, h1, h2, h3, h4⟩ := h
  refine ⟨ao, cap, rfl, h1, h2, h3, fun hp => ?_⟩
  obtain ⟨b, off, rfl, hlt, hc⟩ := h4 hp
  have hs : ¬ S b := fun hs => by
    obtain ⟨x, hx⟩ : ∃ x, ps[0]? = some x := ⟨_, List.getElem?_eq_getElem hp⟩
    exact (hf b (by omega) hs).pair _ x (hc 0 x hx)
  refine ⟨b, off, rfl, hlt, fun i x hx => ?_⟩
  obtain ⟨c0, c1, c2, h5⟩ := hc i x hx
  have key := touch_cell ht (b := b) (by omega) hs
  exact ⟨(key _).trans c0, (key _).trans c1, (key _).trans c2, h5.1, h5.2.1, h5.2.2.block (ht.block b (by omega) hs)⟩

theorem KeptsR.touch {w w' : World} {B : Nat} {v : Value} {ks : List KeptD} {S : Nat → Prop} (h : KeptsR w B v ks) (hB : B ≤ w.heap.size) (ht : TouchG w w' S) (hf : ∀ g, g < w.heap.size → S g → Foreign w g) : KeptsR w' B v ks := by
  obtain ⟨ao, cap, rfl, h1, h2, h3, h4⟩ := h
  refine ⟨ao, cap, rfl, h1, h2, h3, fun hp => ?_⟩
  obtain ⟨b, off, rfl, hlt, hc⟩ := h4 hp
  have hs : ¬ S b := fun hs => by
    obtain ⟨x, hx⟩ : ∃ x, ks[0]? = some x := ⟨_, List.getElem?_eq_getElem hp⟩
    exact (hf b (by omega) hs).kept _ x (hc 0 x hx)
  refine ⟨b, off, rfl, hlt, fun i x hx => ?_⟩
  obtain ⟨c0, c1, c2, c3, h5⟩ := hc i x hx
  have key := touch_cell ht (b := b) (by omega) hs
  exact ⟨(key _).trans c0, (key _).trans c1, (key _).trans c2, (key _).trans c3, h5.1, h5.2.block (ht.block b (by omega) hs)⟩

theorem SessR.touch {w w' : World} {B : Nat} {v : Value} {ls : List SessD} {S : Nat → Prop} (h : SessR w B v ls) (hB : B ≤ w.heap.size) (ht : TouchG w w' S) (hf : ∀ g, g < w.heap.size → S g → Foreign w g) : SessR w' B v ls := by
  obtain ⟨ao, cap, rfl, h1, h2, h3, h4⟩ := h
  refine ⟨ao, cap, rfl, h1, h2, h3, fun hp => ?_⟩
  obtain ⟨b, off, rfl, hlt, hc⟩ := h4 hp
  have hs : ¬ S b := fun hs => by
    obtain ⟨x, hx⟩ : ∃ x, ls[0]? = some x := ⟨_, List.getElem?_eq_getElem hp⟩
    exact (hf b (by omega) hs).sess B _ x (hc 0 x hx)
  refine ⟨b, off, rfl, hlt, fun i x hx => ?_⟩
  obtain ⟨lv, c0, c1, c2, c3, c4, h5⟩ := hc i x hx
  have key := touch_cell ht (b := b) (by omega) hs
  exact ⟨lv, (key _).trans c0, (key _).trans c1, (key _).trans c2, (key _).trans c3, (key _).trans c4, h5.1.touch hB ht hf, h5.2.block (ht.block b (by omega) hs)⟩

theorem LocksO.touch {w w' : World} {base : Nat} {v : Value} {ls : List LockD} {S : Nat → Prop} (h : LocksO w base v ls) (ht : TouchG w w' S) (hf : ∀ g, g < w.heap.size → S g → Foreign w g) : LocksO w' base v ls := by
  obtain ⟨rs, rfl, h⟩ := h
  refine ⟨rs, rfl, h.keep (fun b hb => ?_) (fun b hb => ?_)⟩
  · have hlt := (h.row.lt b hb).2
    refine ht.block b hlt (fun hs => ?_)
    obtain ⟨cs, t, fr, hg, t1, -⟩ := (hf b hlt hs).kind
    rcases h.row.2 with ⟨e, _⟩ | ⟨g, cap, cur, e, _, hg', _⟩
    · rw [e] at hb; cases hb
    · rw [e] at hb
      have : g = b := by simpa [Value.ownBlock] using hb
      subst this
      rw [hg'] at hg
      simp only [Option.some.injEq, Obj.cells.injEq] at hg
      exact t1 hg.2.1.symm
  · have hlt := (h.lines.lt hb).2
    refine ht.block b hlt (fun hs => ?_)
    obtain ⟨cs, t, fr, hg, -, t2⟩ := (hf b hlt hs).kind
    obtain ⟨r, hr, e⟩ := mem_lineBlocks.1 hb
    rcases (h.lines.each r hr).1.2 with ⟨e2, _⟩ | ⟨g, cap, cur, e2, _, hg', _⟩
    · rw [e2] at e; cases e
    · rw [e2] at e
      have : g = b := by simpa [Value.ownBlock] using e
      subst this
      rw [hg'] at hg
      simp only [Option.some.injEq, Obj.cells.injEq] at hg
      exact t2 hg.2.1.symm

/-- The state s lies in block p. -/
def StB (w : World) (p : Nat) (s : StateD) : Prop :=
  ∃ (lo po so : Option Addr) (ln lc pn pc sn sc : Nat), w.heap[p]? = some (.cells #[.int .i64 s.index, .slice lo ln lc, .slice po pn pc, .slice so sn sc] 38 (0, 0)) ∧
    LocksO w 0 (.slice lo ln lc) s.locks ∧ PairsR w w.heap.size (.slice po pn pc) s.pairs ∧ SessR w w.heap.size (.slice so sn sc) s.sess

theorem StB.lt {w : World} {p : Nat} {s : StateD} (h : StB w p s) : p < w.heap.size := by
  obtain ⟨_, _, _, _, _, _, _, _, _, h, -⟩ := h
  exact (Array.getElem?_eq_some_iff.1 h).1

/-- Stores into other blocks, that hold nothing of it. -/
theorem StB.touch {w w' : World} {p : Nat} {s : StateD} {S : Nat → Prop} (h : StB w p s) (ht : TouchG w w' S) (hp : ¬ S p) (hf : ∀ g, g < w.heap.size → S g → Foreign w g) : StB w' p s := by
  have hlt := h.lt
  obtain ⟨lo, po, so, ln, lc, pn, pc, sn, sc, h0, h1, h2, h3⟩ := h
  exact ⟨lo, po, so, ln, lc, pn, pc, sn, sc, (ht.block p hlt hp).trans h0, h1.touch ht hf, (h2.touch (Nat.le_refl _) ht hf).mono ht.size, (h3.touch (Nat.le_refl _) ht hf).mono ht.size⟩

theorem StB.below {w w' : World} {p : Nat} {s : StateD} (h : StB w p s) (hb : Below w.heap.size w w') : StB w' p s :=
  h.touch (TouchG.of_below hb (Nat.le_refl _) (fun _ => False)) (fun h => h) (fun _ _ h => h.elim)

/-- Behind two new blocks and a callee that left all that lay. -/
theorem two_new {w w2 : World} {A R : Obj} (hb : Below (((w.alloc A).alloc R).drew).heap.size ((w.alloc A).alloc R).drew w2) : w2.heap[w.heap.size + 1]? = some R ∧ w2.heap[w.heap.size]? = some A := by
  have h1 := heap_alloc_new (w.alloc A) R
  rw [World.size_alloc] at h1
  have h2 : ((w.alloc A).alloc R).heap[w.heap.size]? = some A := by
    rw [Below.heap_alloc _ _ _ (by simp)]
    exact heap_alloc_new w A
  exact ⟨(hb.block _ (by simp)).trans h1, (hb.block _ (by simp; omega)).trans h2⟩

/-- The value v is the state s, its locks in memory of their own. -/
def StateO (w : World) (v : Value) (s : StateD) : Prop :=
  ∃ (lo po so : Option Addr) (ln lc pn pc sn sc : Nat), v = .agg #[.int .i64 s.index, .slice lo ln lc, .slice po pn pc, .slice so sn sc] ∧
    LocksO w 0 (.slice lo ln lc) s.locks ∧ PairsR w w.heap.size (.slice po pn pc) s.pairs ∧ SessR w w.heap.size (.slice so sn sc) s.sess

theorem StateO.reads {w : World} {v : Value} {s : StateD} (h : StateO w v s) : StateR w w.heap.size v s := by
  obtain ⟨lo, po, so, ln, lc, pn, pc, sn, sc, rfl, h1, h2, h3⟩ := h
  exact ⟨_, _, _, rfl, h1.reads (Nat.le_refl _), h2, h3⟩

theorem StateO.touch {w w' : World} {v : Value} {s : StateD} {S : Nat → Prop} (h : StateO w v s) (ht : TouchG w w' S) (hf : ∀ g, g < w.heap.size → S g → Foreign w g) : StateO w' v s := by
  obtain ⟨lo, po, so, ln, lc, pn, pc, sn, sc, rfl, h1, h2, h3⟩ := h
  exact ⟨lo, po, so, ln, lc, pn, pc, sn, sc, rfl, h1.touch ht hf, (h2.touch (Nat.le_refl _) ht hf).mono ht.size, (h3.touch (Nat.le_refl _) ht hf).mono ht.size⟩

theorem StateO.below {w w' : World} {v : Value} {s : StateD} (h : StateO w v s) (hb : Below w.heap.size w w') : StateO w' v s :=
  h.touch (TouchG.of_below hb (Nat.le_refl _) (fun _ => False)) (fun _ _ h => h.elim)

theorem LocksO.nil (w : World) : LocksO w 0 (.slice none 0 0) [] := ⟨[], rfl, ⟨World.ownsRow_nil _ _ _ _, Lines.nil _ _, by simp [lineBlocks], by simp⟩⟩

end Go.Proofs.Ytbmfahgekcnkaai

namespace Go.Proofs.Ytbmfahgekcnkaai

open Go.RowKit

def StateD.zero : StateD := ⟨0, [], [], []⟩

/-- A replica, as plain data. -/
structure RepD where
  log : LogD
  snap : ByteArray
  state : StateD

def RepD.zero : RepD := ⟨⟨0, []⟩, ⟨#[]⟩, .zero⟩

/-- The value v reads in w as the replica r. -/
def RepR (w : World) (B : Nat) (v : Value) (r : RepD) : Prop :=
  ∃ (eo lo po so : Option Addr) (ec ln lc pn pc sn sc : Nat), v = .agg #[.int .i64 r.log.base, .slice eo r.log.ents.length ec, .string r.snap, .int .i64 r.state.index, .slice lo ln lc, .slice po pn pc, .slice so sn sc] ∧
    TextsR w B (.slice eo r.log.ents.length ec) r.log.ents ∧ r.snap.size ≤ 140737488351232 ∧ LocksR w B (.slice lo ln lc) r.state.locks ∧ PairsR w B (.slice po pn pc) r.state.pairs ∧ SessR w B (.slice so sn sc) r.state.sess

theorem RepR.below {w w' : World} {B : Nat} {v : Value} {r : RepD} (h : RepR w B v r) {B' : Nat} (hb : Below B' w w') (hB : B ≤ B') : RepR w' B v r := by
  obtain ⟨eo, lo, po, so, ec, ln, lc, pn, pc, sn, sc, rfl, h1, h2, h3, h4, h5⟩ := h
  exact ⟨eo, lo, po, so, ec, ln, lc, pn, pc, sn, sc, rfl, h1.below hb hB, h2, h3.below hb hB, h4.below hb hB, h5.below hb hB⟩

theorem RepR.mono {w : World} {B B' : Nat} {v : Value} {r : RepD} (h : RepR w B v r) (hB : B ≤ B') : RepR w B' v r := by
  obtain ⟨eo, lo, po, so, ec, ln, lc, pn, pc, sn, sc, rfl, h1, h2, h3, h4, h5⟩ := h
  exact ⟨eo, lo, po, so, ec, ln, lc, pn, pc, sn, sc, rfl, h1.mono hB, h2, h3.mono hB, h4.mono hB, h5.mono hB⟩

theorem LocksR.nil (w : World) (B : Nat) : LocksR w B (.slice none 0 0) [] := ⟨none, 0, rfl, Nat.le_refl _, by simp, fun _ => rfl, fun h => absurd h (by simp)⟩

theorem RepR.nil (w : World) (B : Nat) : RepR w B (.agg #[.int .i64 0, .slice none 0 0, .string ⟨#[]⟩, .int .i64 0, .slice none 0 0, .slice none 0 0, .slice none 0 0]) .zero :=
  ⟨none, none, none, none, 0, 0, 0, 0, 0, 0, 0, rfl, TextsR.nil _ _, by show (0 : Nat) ≤ _; omega, LocksR.nil _ _, PairsR.nil _ _, SessR.nil _ _⟩

/-- A replica's parts: its log, its state. -/
theorem RepR.parts {w : World} {B : Nat} {v : Value} {r : RepD} (h : RepR w B v r) : ∃ (eo lo po so : Option Addr) (ec ln lc pn pc sn sc : Nat), v = .agg #[.int .i64 r.log.base, .slice eo r.log.ents.length ec, .string r.snap, .int .i64 r.state.index, .slice lo ln lc, .slice po pn pc, .slice so sn sc] ∧
    LogR w B (.agg #[.int .i64 r.log.base, .slice eo r.log.ents.length ec]) r.log ∧ r.snap.size ≤ 140737488351232 ∧ StateR w B (.agg #[.int .i64 r.state.index, .slice lo ln lc, .slice po pn pc, .slice so sn sc]) r.state := by
  obtain ⟨eo, lo, po, so, ec, ln, lc, pn, pc, sn, sc, rfl, h1, h2, h3, h4, h5⟩ := h
  exact ⟨eo, lo, po, so, ec, ln, lc, pn, pc, sn, sc, rfl, ⟨_, rfl, h1⟩, h2, ⟨_, _, _, rfl, h3, h4, h5⟩⟩

/-- A replica of a log, a snapshot and a state. -/
theorem RepR.of {w : World} {B : Nat} {r : RepD} {e0 s0 l0 p0 x0 : Value} {b i : Int} (h1 : LogR w B (.agg #[.int .i64 b, e0]) r.log) (h2 : r.snap.size ≤ 140737488351232) (h3 : StateR w B (.agg #[.int .i64 i, l0, p0, x0]) r.state) (hs : s0 = .string r.snap) : RepR w B (.agg #[.int .i64 b, e0, s0, .int .i64 i, l0, p0, x0]) r := by
  obtain ⟨eo, ec, e, k0⟩ := h1.shape
  obtain ⟨lv, pv, sv, e', k1, k2, k3⟩ := h3
  simp only [Value.agg.injEq, Array.mk.injEq, List.cons.injEq, Value.int.injEq, true_and, and_true] at e e'
  obtain ⟨rfl, rfl⟩ := e
  obtain ⟨rfl, rfl, rfl, rfl⟩ := e'
  subst hs
  obtain ⟨lo, lc, rfl⟩ := k1.slice
  obtain ⟨po, pc, rfl⟩ := k2.slice
  obtain ⟨so, sc, rfl⟩ := k3.slice
  exact ⟨_, _, _, _, _, _, _, _, _, _, _, rfl, k0, h2, k1, k2, k3⟩

/-- What the walk wants of a replica's block. -/
theorem seven_cells {w : World} {p : Nat} {x0 x1 x2 x3 x4 x5 x6 : Value} {t : TypeId} (h : w.heap[p]? = some (.cells #[x0, x1, x2, x3, x4, x5, x6] t (0, 0))) :
    w.cell? ⟨p, 0, none⟩ = some x0 ∧ w.cell? ⟨p, 1, none⟩ = some x1 ∧ w.cell? ⟨p, 2, none⟩ = some x2 ∧ w.cell? ⟨p, 3, none⟩ = some x3 ∧ w.cell? ⟨p, 4, none⟩ = some x4 ∧ w.cell? ⟨p, 5, none⟩ = some x5 ∧ w.cell? ⟨p, 6, none⟩ = some x6 ∧ (∀ j, w.frozen? ⟨p, j, none⟩ = false) ∧ p < w.heap.size :=
  ⟨cells_of h 0, cells_of h 1, cells_of h 2, cells_of h 3, cells_of h 4, cells_of h 5, cells_of h 6, fun j => frozen_of_row w p j _ _ h, (Array.getElem?_eq_some_iff.1 h).1⟩

theorem set7 {w : World} {p : Nat} {x0 x1 x2 x3 x4 x5 x6 : Value} {t : TypeId} (h : w.heap[p]? = some (.cells #[x0, x1, x2, x3, x4, x5, x6] t (0, 0))) (a0 a1 a2 a3 a4 a5 a6 : Value) :
    (((((((w.setCell ⟨p, 0, none⟩ a0).setCell ⟨p, 1, none⟩ a1).setCell ⟨p, 2, none⟩ a2).setCell ⟨p, 3, none⟩ a3).setCell ⟨p, 4, none⟩ a4).setCell ⟨p, 5, none⟩ a5).setCell ⟨p, 6, none⟩ a6).heap[p]? = some (.cells #[a0, a1, a2, a3, a4, a5, a6] t (0, 0)) := by
  rw [heap_set (heap_set (heap_set (heap_set (heap_set (heap_set (heap_set h _) _) _) _) _) _) _]
  rfl

/-- A result put into its block, that lay behind. -/
theorem zset7 {B : Nat} {w0 w : World} {b : Nat} (h : Below B w0 w) (hb : B ≤ b) (a0 a1 a2 a3 a4 a5 a6 : Value) : Below B w0 (((((((w.setCell ⟨b, 0, none⟩ a0).setCell ⟨b, 1, none⟩ a1).setCell ⟨b, 2, none⟩ a2).setCell ⟨b, 3, none⟩ a3).setCell ⟨b, 4, none⟩ a4).setCell ⟨b, 5, none⟩ a5).setCell ⟨b, 6, none⟩ a6) :=
  ((((((h.setCell hb a0).setCell hb a1).setCell hb a2).setCell hb a3).setCell hb a4).setCell hb a5).setCell hb a6

theorem touch7 {w : World} (p : Nat) (a0 a1 a2 a3 a4 a5 a6 : Value) : TouchG w (((((((w.setCell ⟨p, 0, none⟩ a0).setCell ⟨p, 1, none⟩ a1).setCell ⟨p, 2, none⟩ a2).setCell ⟨p, 3, none⟩ a3).setCell ⟨p, 4, none⟩ a4).setCell ⟨p, 5, none⟩ a5).setCell ⟨p, 6, none⟩ a6) (fun b => b = p) :=
  ((((((((TouchG.refl w (fun b => b = p)).setCell (a := ⟨p, 0, none⟩) (Or.inl rfl) a0).setCell (a := ⟨p, 1, none⟩) (Or.inl rfl) a1).setCell (a := ⟨p, 2, none⟩) (Or.inl rfl) a2).setCell (a := ⟨p, 3, none⟩) (Or.inl rfl) a3).setCell (a := ⟨p, 4, none⟩) (Or.inl rfl) a4).setCell (a := ⟨p, 5, none⟩) (Or.inl rfl) a5).setCell (a := ⟨p, 6, none⟩) (Or.inl rfl) a6)

theorem NewR.set7 {n : Nat} {w : World} {R : World → Prop} (h : NewR n w R) {p : Nat} (hp : p < n) (a0 a1 a2 a3 a4 a5 a6 : Value) : NewR n (((((((w.setCell ⟨p, 0, none⟩ a0).setCell ⟨p, 1, none⟩ a1).setCell ⟨p, 2, none⟩ a2).setCell ⟨p, 3, none⟩ a3).setCell ⟨p, 4, none⟩ a4).setCell ⟨p, 5, none⟩ a5).setCell ⟨p, 6, none⟩ a6) R :=
  h.touch (touch7 p a0 a1 a2 a3 a4 a5 a6) fun _ _ e => e ▸ hp

/-- Two blocks of a replica's type ahead of a callee: the replica, the result. -/
theorem boxes7 {w w1 : World} {o r : Obj} (hb1 : Below (w.heap.size + 1 + 1) ((w.alloc o).alloc r) w1) : w1.heap[w.heap.size]? = some o ∧ w1.heap[w.heap.size + 1]? = some r ∧ Below w.heap.size w w1 := by
  obtain ⟨h1, h2⟩ := two_newB hb1
  exact ⟨h2, h1, (((Below.refl w.heap.size w).alloc (Nat.le_refl _) o).alloc (by simp) r).trans (hb1.mono (by omega))⟩

end Go.Proofs.Ytbmfahgekcnkaai
