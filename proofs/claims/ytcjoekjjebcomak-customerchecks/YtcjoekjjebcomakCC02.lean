/- Clients as plain data: what may be, what each step answers. Plain mathematics; no program (joined by program) -/
import Derived.Test.YtcjoekjjebcomakCC01
namespace Go.Proofs.Ytcjoekjjebcomak

open Go.RowKit

/-- A call that waits, as plain data. -/
structure WaitD where
  seq : Int
  kind : Int
  a : ByteArray
  b : ByteArray
  n : Int

/-- A client, as plain data. -/
structure CustD where
  id : Int
  session : Int
  next : Int
  waits : List WaitD

/-- What is wrong with calls that wait, one by one. -/
def waitsE (next first : Int) : Int → List WaitD → Int
  | _, [] => 0
  | ahead, x :: r => if ¬ (1 ≤ x.seq ∧ x.seq ≤ next - 1) ∨ 3 < x.seq - first ∨ x.seq ≤ ahead then 9 else if opE x.kind x.a x.b x.n ≠ 0 then opE x.kind x.a x.b x.n else waitsE next first x.seq r

def firstW : List WaitD → Int
  | [] => 0
  | x :: _ => x.seq

/-- What Check answers. -/
def checkC (c : CustD) : Int :=
  if ¬ (1 ≤ c.id ∧ c.id ≤ 9) ∨ ¬ (0 ≤ c.session ∧ c.session ≤ 1073741824) ∨ ¬ (1 ≤ c.next ∧ c.next ≤ 1048577) then 2
  else if 4 < c.waits.length ∨ (0 < c.waits.length ∧ c.session = 0) then 9
  else waitsE c.next (firstW c.waits) 0 c.waits

end Go.Proofs.Ytcjoekjjebcomak
