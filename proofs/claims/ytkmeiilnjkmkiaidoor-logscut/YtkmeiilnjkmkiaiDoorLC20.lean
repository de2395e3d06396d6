/- What is asked of package log: it answers so; Commands in memory, and a map of numbers by numbers; what holds of commands that come of raw things (joined by program) -/
import Derived.Test.YtkmeiilnjkmkiaiDoorRows
import Derived.WalkKit
import Derived.ProofKit
import Derived.WalkLawsBesides
import Derived.Maps.Own
import Derived.Maps.OwnOps
import Derived.Maps.OwnSet
import Derived.Deep.AppendLies
import Derived.Laws.Rows
import Derived.OwnWalk
import Derived.Test.YtkmeiilnjkmkiaiDoorLC19
import Derived.Test.YtkmeiilnjkmkiaiDoorLC15
import Derived.Test.YtkmeiilnjkmkiaiDoorLC17
import Derived.Test.YtkmeiilnjkmkiaiDoorLC02
namespace Go.Proofs.YtkmeiilnjkmkiaiDoor

open Go.RowKit

theorem newL_len {l : LogD} {i : Int} {more : List ByteArray} (hi : i ≤ l.base + l.ents.length) (ho : opens (overL l i more) (l.ents.drop (aheadL l i)) = false) : (newL l i more).length = aheadL l i + (overL l i more).length := by
  unfold newL
  rw [if_neg (by rw [ho]; decide), List.length_append, List.length_take]
  have : aheadL l i ≤ l.ents.length := by unfold aheadL; omega
  omega

/-- PUT, AT EVERY ARGUMENT. -/
theorem put_any (v : Value) (l : LogD) (i : Int) (mv : Value) (more : List ByteArray) (w : World) (B : Nat) (hv : LogR w B v l) (hmv : TextsR w B mv more) (hB : B ≤ w.heap.size) (hi : -9223372036854775808 ≤ i ∧ i ≤ 9223372036854775807) :
    Calls Tryd.prog 7 #[v, .int .i64 i, mv] w fun e w' => ∃ v', e = .returned (.tuple #[v', .int .i64 (putE l i more)]) ∧ LogR w' w'.heap.size v' (putL l i more) ∧ Below w.heap.size w w' := by
  by_cases he : refE l i more.length = 0
  · obtain ⟨h0, -, -, hil⟩ := refE_zero he
    by_cases hfe : firstE (overL l i more) = 0
    · by_cases hop : opens (overL l i more) (l.ents.drop (aheadL l i)) = true
      · have hn : newL l i more = l.ents := if_pos hop
        have hE : putE l i more = 0 := by
          rw [putE_ref, he, hfe, hn, if_neg (by simp), if_neg (by simp), if_neg]
          have := (logE_zero h0).1.2.2
          omega
        have hL : putL l i more = l := by
          unfold putL
          rw [if_pos hE, hn]
        rw [hE, hL]
        exact put_stands v l i mv more w B hv hmv hB hi he hfe hop
      · have hop' : opens (overL l i more) (l.ents.drop (aheadL l i)) = false := by simpa using hop
        have hlen := newL_len hil hop'
        by_cases hfu : 400 < aheadL l i + (overL l i more).length
        · have hE : putE l i more = 8 := by
            rw [putE_ref, he, hfe, if_neg (by simp), if_neg (by simp), if_pos (by omega)]
          rw [putL_bad (by rw [hE]; decide), hE]
          exact put_full v l i mv more w B hv hmv hB hi he hfe hfu
        · have hE : putE l i more = 0 := by
            rw [putE_ref, he, hfe, if_neg (by simp), if_neg (by simp), if_neg (by omega)]
          have hL : putL l i more = ⟨l.base, l.ents.take (aheadL l i) ++ overL l i more⟩ := by
            unfold putL newL
            rw [if_pos hE, if_neg hop]
          rw [hE, hL]
          exact put_anew v l i mv more w B hv hmv hB hi he hfe hop' (by omega)
    · have hE : putE l i more = firstE (overL l i more) := by
        rw [putE_ref, he, if_neg (by simp), if_pos hfe]
      rw [putL_bad (by rw [hE]; exact hfe), hE]
      exact put_bad v l i mv more w B hv hmv hB hi he hfe
  · have hE : putE l i more = refE l i more.length := by rw [putE_ref, if_pos he]
    rw [putL_bad (by rw [hE]; exact he), hE]
    exact put_refused v l i mv more w B hv hmv hB hi he

theorem logC : LogC where
  put := fun v l k mv more w B hv hm hB hk => put_any v l k mv more w B hv hm hB hk
  last := fun v l w B hv _ h0 => last_any v l w B hv (logE_zero h0).1

theorem logXC : LogXC where
  cut := fun v l i w B hv hB hi => cut_any v l i w B hv hB hi
  at_ := fun v l i w B hv hB hi => at_any v l i w B hv hB hi

end Go.Proofs.YtkmeiilnjkmkiaiDoor

namespace Go.Proofs.YtkmeiilnjkmkiaiDoor

open Go.RowKit Go.Maps

def cmdCells (x : CmdD) : List Value := [.int .i64 x.kind, .int .i64 x.client, .int .i64 x.session, .int .i64 x.seq, .int .i64 x.acked, .int .i64 x.ok, .string x.a, .string x.b, .int .i64 x.n]

def flatC (xs : List CmdD) : List Value := xs.flatMap cmdCells

theorem flatC_snoc (a : List CmdD) (x : CmdD) : flatC (a ++ [x]) = flatC a ++ cmdCells x := by simp [flatC]

theorem flatC_at {ps : List CmdD} {i : Nat} {r : CmdD} (h : ps[i]? = some r) (j : Nat) (hj : j < 9) : (flatC ps)[i * 9 + j]? = (cmdCells r)[j]? := by
  induction ps generalizing i with
  | nil => simp at h
  | cons q t ih =>
    have e : flatC (q :: t) = cmdCells q ++ flatC t := by simp [flatC]
    have hl : (cmdCells q).length = 9 := rfl
    rw [e]
    cases i with
    | zero =>
      have : q = r := by simpa using h
      subst this
      rw [Nat.zero_mul, Nat.zero_add, List.getElem?_append_left (by omega)]
    | succ i =>
      rw [List.getElem?_append_right (by omega), hl, show (i + 1) * 9 + j - 9 = i * 9 + j by omega]
      exact ih (by simpa using h)

theorem cmdCells_one (x : CmdD) : ∀ v ∈ cmdCells x, v.oneCell' = true := by
  intro v hv
  simp only [cmdCells, List.mem_cons, List.not_mem_nil, or_false] at hv
  rcases hv with rfl | rfl | rfl | rfl | rfl | rfl | rfl | rfl | rfl <;> rfl

theorem Tryd.infoCmd : (Tryd.prog.info? 45).map (fun i => (i.zero, i.size, i.bytes)) = some (some (.agg #[.int .i64 0, .int .i64 0, .int .i64 0, .int .i64 0, .int .i64 0, .int .i64 0, .string ⟨#[]⟩, .string ⟨#[]⟩, .int .i64 0]), 9, 88) := by kernel_rfl

theorem crow_keep {w w' : World} {base : Nat} {e : TypeId} {size : Nat} {v : Value} {n : Nat} {xs : List Value} (h : w.ownsRow base e size v n xs) (hk : ∀ b, v.ownBlock = some b → w'.heap[b]? = w.heap[b]?) : w'.ownsRow base e size v n xs := by
  obtain ⟨h1, h2⟩ := h
  refine ⟨h1, ?_⟩
  rcases h2 with h2 | ⟨g, cap, cur, rfl, hg, hh, r⟩
  · exact Or.inl h2
  · exact Or.inr ⟨g, cap, cur, rfl, hg, by rw [hk g rfl]; exact hh, r⟩

theorem crow_below {w w' : World} {base : Nat} {e : TypeId} {size : Nat} {v : Value} {n : Nat} {xs : List Value} (h : w.ownsRow base e size v n xs) (hb : Below w.heap.size w w') : w'.ownsRow base e size v n xs :=
  crow_keep h fun b hbk => hb.block b (h.lt b hbk).2

theorem crow_shape {w : World} {base : Nat} {e : TypeId} {size : Nat} {v : Value} {n : Nat} {xs : List Value} (h : w.ownsRow base e size v n xs) : ∃ ao cap, v = .slice ao n cap := by
  rcases h.2 with ⟨rfl, rfl⟩ | ⟨g, cap, cur, rfl, _⟩
  · exact ⟨none, 0, rfl⟩
  · exact ⟨_, _, rfl⟩

/-- The map at block b tells f c at c (0: nothing), for every c that fits. -/
def MapI (b n : Nat) (f : Int → Int) (w : World) : Prop :=
  ∃ D : DataW Unit, w.ownsMap Tryd.prog 3 (plainElem Tryd.prog 3) b n D ∧ ∀ c : Int, (Lit.int .i64 c).wf = true → D.atKey (.int .i64 c) (.lit (.int .i64 0)) = .lit (.int .i64 (f c))

theorem iKeyed : Keyed Tryd.prog 3 := int_keyed Tryd.underlying3

theorem iZero (u : World) : (zeroValue 3).run Tryd.prog u = .ok (.int .i64 0) u := by kernel_rfl

theorem MapI.made (w : World) : MapI w.heap.size 0 (fun _ => 0) (w.alloc (.map #[] 0)) :=
  ⟨.map [], World.ownsMap_made _ _ _ _, fun _ _ => rfl⟩

theorem MapI.lt {b n : Nat} {f : Int → Int} {w : World} (h : MapI b n f w) : b < w.heap.size := by
  obtain ⟨D, h, -⟩ := h
  exact h.lt

theorem MapI.kept {b n : Nat} {f : Int → Int} {w w' : World} {row : Option Nat} (h : MapI b n f w) (hg : w.grownBy w' row) (hne : some b ≠ row) : MapI b n f w' := by
  obtain ⟨D, h, h2⟩ := h
  exact ⟨D, h.kept hg hne, h2⟩

theorem MapI.mono {b n m : Nat} {f : Int → Int} {w : World} (h : MapI b n f w) (hm : n ≤ m) : MapI b m f w := by
  obtain ⟨D, h, h2⟩ := h
  exact ⟨D, h.mono hm, h2⟩

theorem grownD {w w' : World} (h : Below w.heap.size w w') (row : Option Nat) : w.grownBy w' row := ⟨h.os, h.tape, h.output, h.size, fun i hi _ => h.block i hi⟩

theorem MapI.below {b n : Nat} {f : Int → Int} {w w' : World} (h : MapI b n f w) (hb : Below w.heap.size w w') : MapI b n f w' := h.kept (grownD hb none) (by simp)

theorem wf_i64 {c : Int} (h : -9223372036854775808 ≤ c ∧ c ≤ 9223372036854775807) : (Lit.int .i64 c).wf = true := WalkArith.wf_i64 (by omega)

theorem MapI.look {b n : Nat} {f : Int → Int} {w : World} (h : MapI b n f w) {c : Int} (hc : -9223372036854775808 ≤ c ∧ c ≤ 9223372036854775807) :
    (Instr.lookup 47 (.map (some b)) (.int .i64 c) false).run Tryd.prog w = .ok (.int .i64 (f c)) w := by
  obtain ⟨D, h, h2⟩ := h
  obtain ⟨x, hrun, hat, -⟩ := h.lookup_int iKeyed Tryd.underlying47 Tryd.underlying3 (iZero _) (keyOf_int_mk Tryd.underlying3 (wf_i64 hc))
  rw [h2 c (wf_i64 hc)] at hat
  have : f c = x := by simpa using hat
  rw [hrun, this]

/-- f with v at c. -/
def setF (f : Int → Int) (c v : Int) : Int → Int := fun x => if x = c then v else f x

theorem MapI.store {b n : Nat} {f : Int → Int} {w : World} (h : MapI b n f w) (hn : n < 1000) {c v : Int} (hc : -9223372036854775808 ≤ c ∧ c ≤ 9223372036854775807) (hv : -9223372036854775808 ≤ v ∧ v ≤ 9223372036854775807) :
    ∃ w', (Instr.mapUpdate 47 (.map (some b)) (.int .i64 c) (.int .i64 v)).run Tryd.prog w = .ok () w' ∧ MapI b (n + 1) (setF f c v) w' ∧ w.grownBy w' (some b) := by
  obtain ⟨D, h, h2⟩ := h
  obtain ⟨w', hrun, ho, hg⟩ := h.update iKeyed Tryd.underlying47 (by unfold maxLen; omega) (keyOf_int_mk Tryd.underlying3 (wf_i64 hc)) (plainElem_int Tryd.underlying3 (wf_i64 hv))
  have ht := h.tidy iKeyed
  refine ⟨w', hrun, ⟨_, ho, fun x hx => ?_⟩, hg⟩
  unfold setF
  split
  · rename_i e
    subst e
    exact atKey_put_same (k := .int .i64 x) ht.isMap trivial _ _
  · rename_i e
    rw [atKey_put_other (fun e2 => e (by cases e2; rfl))]
    exact h2 x hx

/-- What is asked of a command that came of raw things, up to a number. -/
structure KeepX (m : Nat) (x : CmdD) : Prop where
  err : x.err = 0
  client : x.client ≤ 4
  seq : x.seq ≤ m + 1
  name : x.kind = 2 → x.a = ⟨#[97]⟩ ∨ x.a = ⟨#[98]⟩ ∨ x.a = ⟨#[107, 101, 121]⟩

/-- What holds of the commands so far, of the sessions (f) and of the next calls (g), behind i raw things. -/
structure KeepC (m i : Nat) (out : List CmdD) (f g : Int → Int) : Prop where
  len : out.length = i
  ok : ∀ x ∈ out, KeepX m x
  f0 : ∀ c, 0 ≤ f c ∧ f c ≤ i
  g0 : ∀ c, 0 ≤ g c ∧ g c ≤ i + 1
  fg : ∀ c, f c ≠ 0 → 1 ≤ g c

theorem KeepC.nil {m : Nat} : KeepC m 0 [] (fun _ => 0) (fun _ => 0) := ⟨rfl, fun x hx => (by cases hx), fun _ => ⟨by simp, by simp⟩, fun _ => ⟨by simp, by simp⟩, fun _ h => absurd rfl h⟩

/-- One more command; nothing else. -/
theorem KeepC.more {m i : Nat} {out : List CmdD} {f g : Int → Int} (h : KeepC m i out f g) {x : CmdD} (hx : KeepX m x) : KeepC m (i + 1) (out ++ [x]) f g :=
  ⟨by have := h.len; simp; omega, fun y hy => by rcases List.mem_append.1 hy with hy | hy; exact h.ok y hy; simp at hy; rw [hy]; exact hx,
    fun c => by have := h.f0 c; omega, fun c => by have := h.g0 c; omega, h.fg⟩

/-- A session begins. -/
theorem KeepC.begin {m i : Nat} {out : List CmdD} {f g : Int → Int} (h : KeepC m i out f g) (hi : 1 ≤ i) (c v : Int) (hv : 0 ≤ v ∧ v ≤ i) : KeepC m i out (setF f c v) (setF g c 1) := by
  refine ⟨h.len, h.ok, fun x => ?_, fun x => ?_, fun x hx => ?_⟩
  · unfold setF; split
    · omega
    · exact h.f0 x
  · unfold setF; split
    · omega
    · exact h.g0 x
  · unfold setF at hx ⊢
    split
    · omega
    · rename_i e
      rw [if_neg e] at hx
      exact h.fg x hx

/-- A session ends. -/
theorem KeepC.leave {m i : Nat} {out : List CmdD} {f g : Int → Int} (h : KeepC m i out f g) (c : Int) : KeepC m i out (setF f c 0) g := by
  refine ⟨h.len, h.ok, fun x => ?_, h.g0, fun x hx => ?_⟩
  · unfold setF; split
    · omega
    · exact h.f0 x
  · unfold setF at hx
    split at hx
    · exact absurd rfl hx
    · exact h.fg x hx

/-- A call was made. -/
theorem KeepC.next {m i : Nat} {out : List CmdD} {f g : Int → Int} (h : KeepC m i out f g) {x : CmdD} (hx : KeepX m x) (c : Int) : KeepC m (i + 1) (out ++ [x]) f (setF g c (g c + 1)) := by
  have h' := h.more hx
  refine ⟨h'.len, h'.ok, h'.f0, fun x => ?_, fun x hx => ?_⟩
  · unfold setF; split
    · have := h.g0 c; omega
    · exact h'.g0 x
  · unfold setF; split
    · have := h.g0 c; omega
    · exact h.fg x hx

end Go.Proofs.YtkmeiilnjkmkiaiDoor
