/- Clients as plain data: what may be, what each step answers. Plain mathematics; no program (joined by program) -/
import Derived.Test.YtcjoekjjebcomalCH01
namespace Go.Proofs.Ytcjoekjjebcomal

open Go.RowKit

/-- A call that waits, as plain data. -/
structure WaitD where
  seq : Int
  kind : Int
  a : ByteArray
  b : ByteArray
  n : Int

/-- A client, as plain data. -/
structure CustD where
  id : Int
  session : Int
  next : Int
  waits : List WaitD

def CustD.zero : CustD := ⟨0, 0, 0, []⟩

/-- What is wrong with calls that wait, one by one. -/
def waitsE (next first : Int) : Int → List WaitD → Int
  | _, [] => 0
  | ahead, x :: r => if ¬ (1 ≤ x.seq ∧ x.seq ≤ next - 1) ∨ 3 < x.seq - first ∨ x.seq ≤ ahead then 9 else if opE x.kind x.a x.b x.n ≠ 0 then opE x.kind x.a x.b x.n else waitsE next first x.seq r

def firstW : List WaitD → Int
  | [] => 0
  | x :: _ => x.seq

/-- What Check answers. -/
def checkC (c : CustD) : Int :=
  if ¬ (1 ≤ c.id ∧ c.id ≤ 9) ∨ ¬ (0 ≤ c.session ∧ c.session ≤ 1073741824) ∨ ¬ (1 ≤ c.next ∧ c.next ≤ 1048577) then 2
  else if 4 < c.waits.length ∨ (0 < c.waits.length ∧ c.session = 0) then 9
  else waitsE c.next (firstW c.waits) 0 c.waits

/-- What Hear refuses, and answers. -/
def hearE (c : CustD) (cl q rc rn : Int) : Int :=
  if checkC c ≠ 0 then checkC c else if cl ≠ c.id then 6
  else if q = 0 then (if 0 < c.session then 12 else if (rc = 0 ∨ rc = 7) ∧ ¬ (1 ≤ rn ∧ rn ≤ 1073741824) then 2 else 0)
  else if c.waits.any (fun x => x.seq == q) then 0 else 12

def hearL (c : CustD) (q rc rn : Int) : CustD :=
  if q = 0 then (if rc = 0 ∨ rc = 7 then ⟨c.id, rn, c.next, c.waits⟩ else c)
  else if rc = 11 then ⟨c.id, 0, c.next, []⟩ else ⟨c.id, c.session, c.next, c.waits.filter (fun x => x.seq != q)⟩

/-- What a client that may be keeps to. -/
structure GoodC (c : CustD) : Prop where
  id : 1 ≤ c.id ∧ c.id ≤ 9
  session : 0 ≤ c.session ∧ c.session ≤ 1073741824
  next : 1 ≤ c.next ∧ c.next ≤ 1048577
  len : c.waits.length ≤ 4
  held : 0 < c.waits.length → c.session ≠ 0
  each : ∀ x ∈ c.waits, 1 ≤ x.seq ∧ x.seq ≤ c.next - 1 ∧ x.seq - firstW c.waits ≤ 3 ∧ opE x.kind x.a x.b x.n = 0
  order : c.waits.Pairwise (fun x y => x.seq < y.seq)

theorem waitsE_zero {next first : Int} : ∀ {ahead : Int} {ws : List WaitD}, waitsE next first ahead ws = 0 → (∀ x ∈ ws, 1 ≤ x.seq ∧ x.seq ≤ next - 1 ∧ x.seq - first ≤ 3 ∧ opE x.kind x.a x.b x.n = 0 ∧ ahead < x.seq) ∧ ws.Pairwise (fun x y => x.seq < y.seq)
  | _, [], _ => ⟨fun x hx => absurd hx (by simp), List.Pairwise.nil⟩
  | ahead, x :: r, h => by
    unfold waitsE at h
    split at h
    · cases h
    · rename_i h1
      split at h
      · rename_i h2; exact absurd h h2
      · rename_i h2
        have h2' : opE x.kind x.a x.b x.n = 0 := Classical.byContradiction h2
        obtain ⟨i1, i2⟩ := waitsE_zero h
        refine ⟨fun y hy => ?_, List.Pairwise.cons (fun y hy => (i1 y hy).2.2.2.2) i2⟩
        rcases List.mem_cons.1 hy with rfl | hy
        · exact ⟨by omega, by omega, by omega, h2', by omega⟩
        · have := i1 y hy
          exact ⟨this.1, this.2.1, this.2.2.1, this.2.2.2.1, by omega⟩

theorem GoodC.of {c : CustD} (h : checkC c = 0) : GoodC c := by
  unfold checkC at h
  split at h
  · cases h
  · rename_i h1
    split at h
    · cases h
    · rename_i h2
      obtain ⟨i1, i2⟩ := waitsE_zero h
      exact ⟨by omega, by omega, by omega, by omega, fun hl e => h2 (.inr ⟨hl, e⟩), fun x hx => by have := i1 x hx; exact ⟨this.1, this.2.1, this.2.2.1, this.2.2.2.1⟩, i2⟩

end Go.Proofs.Ytcjoekjjebcomal
