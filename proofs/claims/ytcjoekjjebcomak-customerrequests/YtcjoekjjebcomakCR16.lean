/- Plain mathematics of reading a command from bytes: what is read, and what is wrong first. It imports no program (joined by program) -/
import Derived.Test.YtcjoekjjebcomakCR13
import Derived.Test.YtcjoekjjebcomakCR01
namespace Go.Proofs.Ytcjoekjjebcomak

open Go.RowKit

/-- A command, as plain data. -/
structure CmdD where
  kind : Int
  client : Int
  session : Int
  seq : Int
  acked : Int
  ok : Int
  a : ByteArray
  b : ByteArray
  n : Int

def CmdD.zero : CmdD := ⟨0, 0, 0, 0, 0, 0, ⟨#[]⟩, ⟨#[]⟩, 0⟩

end Go.Proofs.Ytcjoekjjebcomak
