/- The bytes of a command. It imports no program of its own. -/
import Derived.Test.YtnclipjepefpjaeDoorCodecText
import Derived.Test.YtnclipjepefpjaeDoorCmdDecMath
namespace Go.Proofs.YtnclipjepefpjaeDoor
open Go.RowKit

/-- A number's bytes. -/
def numOut (n : Int) : ByteArray := strOfNums (encN n)

/-- What a Call has behind its head. -/
def callOut (c : CmdD) : ByteArray := numOut c.session ++ (numOut c.seq ++ (numOut c.acked ++ (numOut c.ok ++ (numOut c.n ++ (textOut c.a ++ textOut c.b)))))

/-- A command's bytes. -/
def cmdOut (c : CmdD) : ByteArray := if c.kind = 2 then strOfNums [c.kind, c.client] ++ callOut c else strOfNums [c.kind, c.client]
end Go.Proofs.YtnclipjepefpjaeDoor
