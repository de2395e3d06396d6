/- Clients as plain data: what may be, what each step answers. Plain mathematics; no program (joined by program) -/
import Derived.WalkKit
import Derived.ProofKit
namespace Go.Proofs.Ytcjoekjjebcomak

open Go.RowKit

/-- A call that waits, as plain data. -/
structure WaitD where
  seq : Int
  kind : Int
  a : ByteArray
  b : ByteArray
  n : Int

/-- A client, as plain data. -/
structure CustD where
  id : Int
  session : Int
  next : Int
  waits : List WaitD

end Go.Proofs.Ytcjoekjjebcomak
