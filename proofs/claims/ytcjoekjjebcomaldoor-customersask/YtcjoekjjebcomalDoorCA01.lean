/- Clients as plain data: what may be, what each step answers. Plain mathematics; no program; Rows of elements of several cells each: what a value reads as, and a row of a call's own. No program is named but for the seat's namespace (joined by program) -/
import Derived.WalkKit
import Derived.ProofKit
import Derived.WalkLawsBesides
import Derived.Laws.Rows
import Derived.Laws.CopyOwn
import Derived.Laws.AppendOwn
import Derived.Below
import Derived.Test.YtcjoekjjebcomalDoorCA00
namespace Go.Proofs.YtcjoekjjebcomalDoor

open Go.RowKit

/-- A call that waits, as plain data. -/
structure WaitD where
  seq : Int
  kind : Int
  a : ByteArray
  b : ByteArray
  n : Int

/-- A client, as plain data. -/
structure CustD where
  id : Int
  session : Int
  next : Int
  waits : List WaitD

def CustD.zero : CustD := ⟨0, 0, 0, []⟩

/-- What is wrong with calls that wait, one by one. -/
def waitsE (next first : Int) : Int → List WaitD → Int
  | _, [] => 0
  | ahead, x :: r => if ¬ (1 ≤ x.seq ∧ x.seq ≤ next - 1) ∨ 3 < x.seq - first ∨ x.seq ≤ ahead then 9 else if opE x.kind x.a x.b x.n ≠ 0 then opE x.kind x.a x.b x.n else waitsE next first x.seq r

def firstW : List WaitD → Int
  | [] => 0
  | x :: _ => x.seq

/-- What Check answers. -/
def checkC (c : CustD) : Int :=
  if ¬ (1 ≤ c.id ∧ c.id ≤ 9) ∨ ¬ (0 ≤ c.session ∧ c.session ≤ 1073741824) ∨ ¬ (1 ≤ c.next ∧ c.next ≤ 1048577) then 2
  else if 4 < c.waits.length ∨ (0 < c.waits.length ∧ c.session = 0) then 9
  else waitsE c.next (firstW c.waits) 0 c.waits

/-- What a client knows. -/
def knownC (c : CustD) : Int := match c.waits with
  | [] => c.next - 1
  | x :: _ => x.seq - 1

/-- What Start refuses, and answers. -/
def startE (c : CustD) (k : Int) (a b : ByteArray) (n : Int) : Int :=
  if checkC c ≠ 0 then checkC c else if c.session = 0 then 11 else if opE k a b n ≠ 0 then opE k a b n else if 1048576 < c.next ∨ 4 < c.next - knownC c then 8 else 0

def startL (c : CustD) (k : Int) (a b : ByteArray) (n : Int) : CustD := ⟨c.id, c.session, c.next + 1, c.waits ++ [⟨c.next, k, a, b, n⟩]⟩

/-- What Hear refuses, and answers. -/
def hearE (c : CustD) (cl q rc rn : Int) : Int :=
  if checkC c ≠ 0 then checkC c else if cl ≠ c.id then 6
  else if q = 0 then (if 0 < c.session then 12 else if (rc = 0 ∨ rc = 7) ∧ ¬ (1 ≤ rn ∧ rn ≤ 1073741824) then 2 else 0)
  else if c.waits.any (fun x => x.seq == q) then 0 else 12

def hearL (c : CustD) (q rc rn : Int) : CustD :=
  if q = 0 then (if rc = 0 ∨ rc = 7 then ⟨c.id, rn, c.next, c.waits⟩ else c)
  else if rc = 11 then ⟨c.id, 0, c.next, []⟩ else ⟨c.id, c.session, c.next, c.waits.filter (fun x => x.seq != q)⟩

/-- What a client that may be keeps to. -/
structure GoodC (c : CustD) : Prop where
  id : 1 ≤ c.id ∧ c.id ≤ 9
  session : 0 ≤ c.session ∧ c.session ≤ 1073741824
  next : 1 ≤ c.next ∧ c.next ≤ 1048577
  len : c.waits.length ≤ 4
  held : 0 < c.waits.length → c.session ≠ 0
  each : ∀ x ∈ c.waits, 1 ≤ x.seq ∧ x.seq ≤ c.next - 1 ∧ x.seq - firstW c.waits ≤ 3 ∧ opE x.kind x.a x.b x.n = 0
  order : c.waits.Pairwise (fun x y => x.seq < y.seq)

theorem waitsE_zero {next first : Int} : ∀ {ahead : Int} {ws : List WaitD}, waitsE next first ahead ws = 0 → (∀ x ∈ ws, 1 ≤ x.seq ∧ x.seq ≤ next - 1 ∧ x.seq - first ≤ 3 ∧ opE x.kind x.a x.b x.n = 0 ∧ ahead < x.seq) ∧ ws.Pairwise (fun x y => x.seq < y.seq)
  | _, [], _ => ⟨fun x hx => absurd hx (by simp), List.Pairwise.nil⟩
  | ahead, x :: r, h => by
    unfold waitsE at h
    split at h
    · cases h
    · rename_i h1
      split at h
      · rename_i h2; exact absurd h h2
      · rename_i h2
        have h2' : opE x.kind x.a x.b x.n = 0 := Classical.byContradiction h2
        obtain ⟨i1, i2⟩ := waitsE_zero h
        refine ⟨fun y hy => ?_, List.Pairwise.cons (fun y hy => (i1 y hy).2.2.2.2) i2⟩
        rcases List.mem_cons.1 hy with rfl | hy
        · exact ⟨by omega, by omega, by omega, h2', by omega⟩
        · have := i1 y hy
          exact ⟨this.1, this.2.1, this.2.2.1, this.2.2.2.1, by omega⟩

theorem waitsE_of {next first : Int} : ∀ {ahead : Int} {ws : List WaitD}, (∀ x ∈ ws, 1 ≤ x.seq ∧ x.seq ≤ next - 1 ∧ x.seq - first ≤ 3 ∧ opE x.kind x.a x.b x.n = 0 ∧ ahead < x.seq) → ws.Pairwise (fun x y => x.seq < y.seq) → waitsE next first ahead ws = 0
  | _, [], _, _ => rfl
  | ahead, x :: r, h, hp => by
    have hx := h x (by simp)
    unfold waitsE
    rw [if_neg (by omega), if_neg (fun e => e hx.2.2.2.1)]
    cases hp with
    | cons h1 h2 => exact waitsE_of (fun y hy => by
        have := h y (by simp [hy])
        exact ⟨this.1, this.2.1, this.2.2.1, this.2.2.2.1, h1 y hy⟩) h2

theorem GoodC.of {c : CustD} (h : checkC c = 0) : GoodC c := by
  unfold checkC at h
  split at h
  · cases h
  · rename_i h1
    split at h
    · cases h
    · rename_i h2
      obtain ⟨i1, i2⟩ := waitsE_zero h
      exact ⟨by omega, by omega, by omega, by omega, fun hl e => h2 (.inr ⟨hl, e⟩), fun x hx => by have := i1 x hx; exact ⟨this.1, this.2.1, this.2.2.1, this.2.2.2.1⟩, i2⟩

theorem GoodC.check {c : CustD} (h : GoodC c) : checkC c = 0 := by
  have h1 := h.id
  have h2 := h.session
  have h3 := h.next
  have h4 := h.len
  unfold checkC
  rw [if_neg (by omega), if_neg (by
    rintro (e | ⟨e1, e2⟩)
    · omega
    · exact h.held e1 e2)]
  exact waitsE_of (fun x hx => by have := h.each x hx; exact ⟨this.1, this.2.1, this.2.2.1, this.2.2.2, by omega⟩) h.order

end Go.Proofs.YtcjoekjjebcomalDoor

namespace Go.Proofs.YtcjoekjjebcomalDoor

open Go.RowKit

theorem ghid {p : Prop} (h : p) : Hid p := h

theorem g_drewN_below (B : Nat) (w : World) (n : Nat) : Below B w (w.drewN n) := ⟨rfl, rfl, rfl, Nat.le_refl _, fun _ _ => rfl⟩

theorem gadd (b o j : Nat) : (⟨b, o, none⟩ : Addr).add j = ⟨b, o + j, none⟩ := by unfold Addr.add; split <;> simp_all

section

variable {α : Type} {c : α → List Value} {m : Nat}

/-- The cells of elements, one behind another. -/
def flatG (c : α → List Value) (xs : List α) : List Value := xs.flatMap c

theorem flatG_length (hc : ∀ x, (c x).length = m) (xs : List α) : (flatG c xs).length = xs.length * m := by
  induction xs with
  | nil => simp [flatG]
  | cons r t ih => simp only [flatG, List.flatMap_cons, List.length_append] at ih ⊢; rw [ih, hc, List.length_cons, Nat.add_mul]; omega

theorem flatG_append (a b : List α) : flatG c (a ++ b) = flatG c a ++ flatG c b := by simp [flatG]

theorem flatG_snoc (a : List α) (x : α) : flatG c (a ++ [x]) = flatG c a ++ c x := by simp [flatG]

theorem flatG_cons (a : List α) (x : α) : flatG c (x :: a) = c x ++ flatG c a := by simp [flatG]

theorem flatG_nil : flatG c [] = [] := rfl

theorem flatG_at (hc : ∀ x, (c x).length = m) {xs : List α} {i : Nat} {r : α} (h : xs[i]? = some r) (j : Nat) (hj : j < m) : (flatG c xs)[i * m + j]? = (c r)[j]? := by
  induction xs generalizing i with
  | nil => simp at h
  | cons q t ih =>
    rw [flatG_cons]
    cases i with
    | zero =>
      have : q = r := by simpa using h
      subst this
      rw [Nat.zero_mul, Nat.zero_add, List.getElem?_append_left (by rw [hc]; exact hj)]
    | succ i =>
      rw [List.getElem?_append_right (by rw [hc, Nat.add_mul]; omega), hc, show (i + 1) * m + j - m = i * m + j by rw [Nat.add_mul]; omega]
      exact ih (by simpa using h)

theorem flatG_one (h1 : ∀ x, ∀ v ∈ c x, v.oneCell' = true) (xs : List α) : ∀ v ∈ flatG c xs, v.oneCell' = true := by
  intro v hv
  obtain ⟨r, hr, hv⟩ := List.mem_flatMap.1 hv
  exact h1 r v hv

theorem flatG_take (hc : ∀ x, (c x).length = m) (xs : List α) (i : Nat) : (flatG c xs).take (i * m) = flatG c (xs.take i) := by
  by_cases hi : i ≤ xs.length
  · have e : flatG c xs = flatG c (xs.take i) ++ flatG c (xs.drop i) := by rw [← flatG_append, List.take_append_drop]
    have hl : (flatG c (xs.take i)).length = i * m := by rw [flatG_length hc, List.length_take, Nat.min_eq_left hi]
    rw [e, ← hl, List.take_left]
  · rw [List.take_of_length_le (i := i) (by omega), List.take_of_length_le]
    rw [flatG_length hc]
    exact Nat.mul_le_mul_right _ (by omega)

theorem flatG_drop (hc : ∀ x, (c x).length = m) (xs : List α) (i : Nat) (hi : i ≤ xs.length) : (flatG c xs).drop (i * m) = flatG c (xs.drop i) := by
  have e : flatG c xs = flatG c (xs.take i) ++ flatG c (xs.drop i) := by rw [← flatG_append, List.take_append_drop]
  have hl : (flatG c (xs.take i)).length = i * m := by rw [flatG_length hc, List.length_take, Nat.min_eq_left hi]
  rw [e, ← hl, List.drop_left]

end

section

variable {w w' : World} {base : Nat} {e : TypeId} {size : Nat} {v : Value} {n : Nat} {xs : List Value}

theorem grow_keep (h : w.ownsRow base e size v n xs) (hk : ∀ b, v.ownBlock = some b → w'.heap[b]? = w.heap[b]?) : w'.ownsRow base e size v n xs := by
  obtain ⟨h1, h2⟩ := h
  refine ⟨h1, ?_⟩
  rcases h2 with h2 | ⟨g, cap, cur, rfl, hg, hh, r⟩
  · exact Or.inl h2
  · exact Or.inr ⟨g, cap, cur, rfl, hg, by rw [hk g rfl]; exact hh, r⟩

theorem grow_base {base' : Nat} (h : w.ownsRow base e size v n xs) (hk : ∀ b, v.ownBlock = some b → base' ≤ b) : w.ownsRow base' e size v n xs := by
  obtain ⟨h1, h2⟩ := h
  refine ⟨h1, ?_⟩
  rcases h2 with h2 | ⟨g, cap, cur, rfl, hg, hh, r⟩
  · exact Or.inl h2
  · exact Or.inr ⟨g, cap, cur, rfl, hk g rfl, hh, r⟩

theorem grow_mono {base' : Nat} (h : w.ownsRow base e size v n xs) (hb : base' ≤ base) : w.ownsRow base' e size v n xs :=
  grow_base h fun b hbk => Nat.le_trans hb (h.lt b hbk).1

theorem grow_below (h : w.ownsRow base e size v n xs) {B : Nat} (hb : Below B w w') (hB : w.heap.size ≤ B) : w'.ownsRow base e size v n xs :=
  grow_keep h fun b hbk => hb.block b (by have := (h.lt b hbk).2; omega)

/-- The first of a row. -/
theorem grow_take {g cap k : Nat} (h : w.ownsRow base e size (.slice (some ⟨g, 0, none⟩) n cap) n xs) (hk : k ≤ n) : w.ownsRow base e size (.slice (some ⟨g, 0, none⟩) k cap) k (xs.take (k * size)) := by
  have hm : k * size ≤ n * size := Nat.mul_le_mul_right _ hk
  rcases h.2 with ⟨h', _⟩ | ⟨g', cap', cur, h', hg, hh, hle, hcm, hcs, ht⟩
  · cases h'
  · simp only [Value.slice.injEq, Option.some.injEq, Addr.mk.injEq, and_true, true_and] at h'
    obtain ⟨rfl, rfl⟩ := h'
    refine ⟨by rw [List.length_take, h.1]; omega, Or.inr ⟨g, cap, cur, rfl, hg, hh, by omega, hcm, hcs, ?_⟩⟩
    rw [← ht, List.take_take, Nat.min_eq_left hm]

end

/-- w' is w but for blocks in S, and new ones. -/
structure TouchG (w w' : World) (S : Nat → Prop) : Prop where
  os : w'.os = w.os
  tape : w'.tape = w.tape
  output : w'.output = w.output
  size : w.heap.size ≤ w'.heap.size
  block : ∀ k, k < w.heap.size → ¬ S k → w'.heap[k]? = w.heap[k]?

theorem TouchG.refl (w : World) (S : Nat → Prop) : TouchG w w S := ⟨rfl, rfl, rfl, Nat.le_refl _, fun _ _ _ => rfl⟩

theorem TouchG.setCell {w0 w : World} {S : Nat → Prop} (h : TouchG w0 w S) {a : Addr} (ha : S a.block ∨ w0.heap.size ≤ a.block) (u : Value) : TouchG w0 (w.setCell a u) S :=
  ⟨h.os, h.tape, h.output, by have := h.size; simpa [World.setCell] using this, fun k hk hs => (Below.heap_setCell _ _ _ _ (by rintro rfl; rcases ha with ha | ha; exact hs ha; omega)).trans (h.block k hk hs)⟩

theorem TouchG.grown {w0 w w' : World} {S : Nat → Prop} {row : Option Nat} (h : TouchG w0 w S) (hg : w.grownBy w' row) (hr : ∀ k, row = some k → S k ∨ w0.heap.size ≤ k) : TouchG w0 w' S :=
  ⟨hg.os.trans h.os, hg.tape.trans h.tape, hg.output.trans h.output, Nat.le_trans h.size hg.size, fun k hk hs => (hg.block k (by have := h.size; omega) (fun e => by rcases hr k e.symm with h' | h'; exact hs h'; omega)).trans (h.block k hk hs)⟩

theorem TouchG.of_below {w w' : World} {B : Nat} (h : Below B w w') (hB : w.heap.size ≤ B) (S : Nat → Prop) : TouchG w w' S := ⟨h.os, h.tape, h.output, h.size, fun k hk _ => h.block k (by omega)⟩

theorem TouchG.trans {a b c : World} {S T : Nat → Prop} (h : TouchG a b S) (k : TouchG b c T) (hs : ∀ i, i < a.heap.size → T i → S i) : TouchG a c S :=
  ⟨k.os.trans h.os, k.tape.trans h.tape, k.output.trans h.output, Nat.le_trans h.size k.size, fun i hi hn => (k.block i (by have := h.size; omega) (fun ht => hn (hs i hi ht))).trans (h.block i hi hn)⟩

theorem TouchG.below {w w' : World} {S : Nat → Prop} (h : TouchG w w' S) {B : Nat} (hB : B ≤ w.heap.size) (hs : ∀ k, S k → B ≤ k) : Below B w w' :=
  ⟨h.os, h.tape, h.output, h.size, fun k hk => h.block k (by omega) (fun e => by have := hs k e; omega)⟩

theorem TouchG.drew {w0 w : World} {S : Nat → Prop} (h : TouchG w0 w S) (n : Nat) : TouchG w0 (w.drewN n) S := ⟨h.os, h.tape, h.output, h.size, h.block⟩

/-- w' is w but for old blocks below n, and new ones. -/
def NewR (n : Nat) (w : World) (R : World → Prop) : Prop := ∀ u, TouchG w u (fun k => k < n) → R u

theorem NewR.touch {n : Nat} {w w' : World} {R : World → Prop} (h : NewR n w R) {S : Nat → Prop} (ht : TouchG w w' S) (hs : ∀ k, k < w.heap.size → S k → k < n) : NewR n w' R := by
  intro u hu
  refine h u ⟨hu.os.trans ht.os, hu.tape.trans ht.tape, hu.output.trans ht.output, Nat.le_trans ht.size hu.size, fun k hk hn => ?_⟩
  exact (hu.block k (by have := ht.size; omega) hn).trans (ht.block k hk (fun e => hn (hs k hk e)))

theorem NewR.mono {n m : Nat} {w : World} {R : World → Prop} (h : NewR n w R) (hm : m ≤ n) : NewR m w R :=
  fun u hu => h u ⟨hu.os, hu.tape, hu.output, hu.size, fun k hk hn => hu.block k hk (by omega)⟩

theorem NewR.of (n : Nat) (w : World) {R : World → Prop} (h : ∀ u, R u) : NewR n w R := fun u _ => h u

theorem NewR.below {n : Nat} {w w' : World} {R : World → Prop} (h : NewR n w R) (hb : Below w.heap.size w w') : NewR n w' R :=
  h.touch (TouchG.of_below hb (Nat.le_refl _) (fun _ => False)) (fun _ _ h => h.elim)

theorem NewR.set {n : Nat} {w : World} {R : World → Prop} (h : NewR n w R) {a : Addr} (ha : a.block < n) (u : Value) : NewR n (w.setCell a u) R :=
  h.touch ((TouchG.refl w (fun b => b = a.block)).setCell (Or.inl rfl) u) (fun k _ e => by omega)

section

variable {P : Program}

/-- clear(s), s a slice of elements of several cells. -/
theorem run_clear_wide (w : World) (t e : TypeId) (i : TypeInfo) (z : Value) (ht : P.underlying t = some (.slice e)) (hi : P.info? e = some i) (hz : i.zero = some z) (h1 : ∀ v ∈ (Builtin.zeroCells z.cells 1).toList, v.oneCell' = true) (hzs : 0 < z.cells.size)
    (g o n c : Nat) (cur : Array Value) (t' : TypeId) (hn : 0 < n) (hg : w.heap[g]? = some (.cells cur t' (0, 0))) (hfit : o + n * z.cells.size ≤ cur.size) :
    ∃ zs : List Value, zs.length = n * z.cells.size ∧ ∀ ty : TypeId, (Builtin.clear_ #[t] ty #[.slice (some ⟨g, o, none⟩) n c]).run P w = .ok (.tuple #[]) (w.setRow g (cur.toList.take o ++ zs ++ cur.toList.drop (o + zs.length)).toArray) := by
  refine ⟨(Builtin.zeroCells z.cells n).toList, by simp [size_zeroCells], fun ty => ?_⟩
  have hone : ∀ v ∈ (Builtin.zeroCells z.cells n).toList, v.oneCell' = true := by
    intro v hv
    refine h1 v ?_
    simp only [Builtin.zeroCells, Array.toList_map, List.mem_map, Array.toList_range, List.mem_range] at hv ⊢
    obtain ⟨k, hk, rfl⟩ := hv
    exact ⟨k % z.cells.size, by rw [Nat.one_mul]; exact Nat.mod_lt _ hzs, by rw [Nat.mod_mod]⟩
  have hst := run_storeCells_at P g o t' (Builtin.zeroCells z.cells n).toList 0 cur w hg (by simpa [size_zeroCells] using hfit) hone
  simp only [Nat.add_zero] at hst
  obtain ⟨m, rfl⟩ : ∃ m, n = m + 1 := ⟨n - 1, by omega⟩
  simp [Builtin.clear_, run_underlying ht, zeroValue, typeInfo, hi, hz, hst]

end

end Go.Proofs.YtcjoekjjebcomalDoor
