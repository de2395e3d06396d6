/- Two replies that are one are equal. -/
import Derived.Test.YtmcdbdcabiccnafRows
import Derived.WalkKit
import Derived.ProofKit
import Derived.WalkLawsBesides
import Derived.Laws.StructEq
namespace Go.Proofs.Ytmcdbdcabiccnaf
open Go.RowKit

theorem reply_eq (c m : Int) (s : ByteArray) (w : World) : (binOp .eql 26 (.agg #[.int .i64 c, .int .i64 m, .string s]) (.agg #[.int .i64 c, .int .i64 m, .string s])).run Try.prog w = .ok (.bool true) w := by
  have u3 := Try.underlying3
  have a3 := Try.isAgg3
  have z3 := Try.sizeOf3
  have u9 := Try.underlying9
  have a9 := Try.isAgg9
  have z9 := Try.sizeOf9
  have u2 := Try.underlying24
  have a2 := Try.isAgg24
  have z2 := Try.sizeOf24
  have hS : Try.prog.underlying 26 = some (.struct (Try.prog.fieldsOf 26)) := by kernel_rfl
  have hp : Try.prog.stoodInHeld 26 = false := by kernel_rfl
  rw [run_eql_struct, show (10000 : Nat) = 9999 + 1 from rfl, run_equalIn_agg w 9999 26 _ _ hS hp]
  simp only [Program.fieldsOf, Try.underlying26]
  go_simp
end Go.Proofs.Ytmcdbdcabiccnaf
