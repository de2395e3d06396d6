/-
  NARROWER THAN 'FOR EVERY INPUT', by the rows' own cells (each row's printed sentence says how): ClustersGood: laid · TopSame: laid · TopOnce: laid · TopFences: laid · TopReplies: laid · TopCatch: laid · TopCrash: laid · TopStays: laid · TopTwice: laid.
  DERIVED. THE GIVEN ROWS OF THIS SEAT. 9 by the template 'for every input the law returns true; each argument reads behind the call as it read before'; 0 by the template 'total and deterministic' (their statements: YtijilhbdbeajjaaGreatDoorTotals.lean).
  GIVEN WITH THE SEED: the statements are not yours to turn. If you find one false, say at which input.
  Laid BY PROGRAM, IN A SANDBOX (cutbox-rows.mjs): the forced cells as the released guide's own fill.sh prints them over the translation a3631c9f51a6329c… (all of the seat's roots in one cut). By AI agents, Wed Nov 11 2026. No macro, syntax, notation, axiom, sorry.
-/
import Derived.Test.YtijilhbdbeajjaaGreatDoorChecked
import GoSem.Claim
import GoSem.ClaimJoined
import GoSem.ClaimMapViews
import Derived.JoinedTies
import Derived.KernelRfl
namespace Go.Proofs.YtijilhbdbeajjaaGreatDoor
/- THE CELL 'sum', in the pinned program and in every row, IS THE sha256 OF THE DUMP (.gsa) THAT YtijilhbdbeajjaaGreatDoorProg.lean LOADS. Nothing in Lean hashes anything: it is a label: what it is worth is what the hold of that sum in a sandbox is worth. -/
noncomputable def Tryz.pinned : Pinned := { name := "ytijilhbdbeajjaagreatdoor", sum := "a3631c9f51a6329c39085c5aa3f4672035f93d3da66d6bd5e9937ff2e6819c63", checked := Tryz.checked }
namespace Rows
def none {H : Type} : Left H := { results := [], args := [] }

/- WHAT THE LISTED PACKAGE-LEVEL VARIABLES READ AS WHEN THE CALL BEGINS. Each datum BY PROGRAM (the guide's laid-datum.mjs) off the statement by which the dump's own 'gosem.cut.vars' lays the variable. In a bare row this is a premise. The card (YtijilhbdbeajjaaGreatDoorCards.lean) ties it to the program's text. -/
def laid_math_bits_deBruijn32tab {H : Type} : DataW H := .agg [.lit (.int .u8 0), .lit (.int .u8 1), .lit (.int .u8 28), .lit (.int .u8 2), .lit (.int .u8 29), .lit (.int .u8 14), .lit (.int .u8 24), .lit (.int .u8 3), .lit (.int .u8 30), .lit (.int .u8 22), .lit (.int .u8 20), .lit (.int .u8 15), .lit (.int .u8 25), .lit (.int .u8 17), .lit (.int .u8 4), .lit (.int .u8 8), .lit (.int .u8 31), .lit (.int .u8 27), .lit (.int .u8 13), .lit (.int .u8 23), .lit (.int .u8 21), .lit (.int .u8 19), .lit (.int .u8 16), .lit (.int .u8 7), .lit (.int .u8 26), .lit (.int .u8 12), .lit (.int .u8 18), .lit (.int .u8 6), .lit (.int .u8 11), .lit (.int .u8 5), .lit (.int .u8 10), .lit (.int .u8 9)]
def laid_math_bits_deBruijn64tab {H : Type} : DataW H := .agg [.lit (.int .u8 0), .lit (.int .u8 1), .lit (.int .u8 56), .lit (.int .u8 2), .lit (.int .u8 57), .lit (.int .u8 49), .lit (.int .u8 28), .lit (.int .u8 3), .lit (.int .u8 61), .lit (.int .u8 58), .lit (.int .u8 42), .lit (.int .u8 50), .lit (.int .u8 38), .lit (.int .u8 29), .lit (.int .u8 17), .lit (.int .u8 4), .lit (.int .u8 62), .lit (.int .u8 47), .lit (.int .u8 59), .lit (.int .u8 36), .lit (.int .u8 45), .lit (.int .u8 43), .lit (.int .u8 51), .lit (.int .u8 22), .lit (.int .u8 53), .lit (.int .u8 39), .lit (.int .u8 33), .lit (.int .u8 30), .lit (.int .u8 24), .lit (.int .u8 18), .lit (.int .u8 12), .lit (.int .u8 5), .lit (.int .u8 63), .lit (.int .u8 55), .lit (.int .u8 48), .lit (.int .u8 27), .lit (.int .u8 60), .lit (.int .u8 41), .lit (.int .u8 37), .lit (.int .u8 16), .lit (.int .u8 46), .lit (.int .u8 35), .lit (.int .u8 44), .lit (.int .u8 21), .lit (.int .u8 52), .lit (.int .u8 32), .lit (.int .u8 23), .lit (.int .u8 11), .lit (.int .u8 54), .lit (.int .u8 26), .lit (.int .u8 40), .lit (.int .u8 15), .lit (.int .u8 34), .lit (.int .u8 20), .lit (.int .u8 31), .lit (.int .u8 10), .lit (.int .u8 25), .lit (.int .u8 14), .lit (.int .u8 19), .lit (.int .u8 9), .lit (.int .u8 13), .lit (.int .u8 8), .lit (.int .u8 7), .lit (.int .u8 6)]
def laid_internal_strconv_uint64pow10 {H : Type} : DataW H := .agg [.lit (.int .u64 1), .lit (.int .u64 10), .lit (.int .u64 100), .lit (.int .u64 1000), .lit (.int .u64 10000), .lit (.int .u64 100000), .lit (.int .u64 1000000), .lit (.int .u64 10000000), .lit (.int .u64 100000000), .lit (.int .u64 1000000000), .lit (.int .u64 10000000000), .lit (.int .u64 100000000000), .lit (.int .u64 1000000000000), .lit (.int .u64 10000000000000), .lit (.int .u64 100000000000000), .lit (.int .u64 1000000000000000), .lit (.int .u64 10000000000000000), .lit (.int .u64 100000000000000000), .lit (.int .u64 1000000000000000000), .lit (.int .u64 10000000000000000000)]

/-- 'tackroomkeep.ClustersGood': WHATEVER THE INPUT: true; the input reads as it did. -/
def clustersGoodSpec : ChangeSpec := { name := "clustersGood", fn := fun _ => fun
  | [d1, d2] => { results := [.lit (.bool true)], args := [d1, d2] }
  | _ => none }
def clustersGoodRow : OpenClaim := { program := "ytijilhbdbeajjaagreatdoor", sum := "a3631c9f51a6329c39085c5aa3f4672035f93d3da66d6bd5e9937ff2e6819c63", func := "tackroom/tackroomkeep.ClustersGood", spec := "clustersGood", inPlace := ["internal/abi.NoEscape", "slices.overlaps[tackroom/api.Session]", "slices.overlaps[tackroom/api.Lock]", "slices.overlaps[tackroom/api.Pair]", "slices.overlaps[tackroom/api.Kept]"], unfollowed := true, recurses := true, named := ["internal/strconv.uint64pow10", "math/bits.deBruijn32tab", "math/bits.deBruijn64tab"], plainKeys := false, apart := false, laid := [("math/bits.deBruijn32tab", laid_math_bits_deBruijn32tab), ("math/bits.deBruijn64tab", laid_math_bits_deBruijn64tab), ("internal/strconv.uint64pow10", laid_internal_strconv_uint64pow10)] }
def ClustersGoodSaid : Prop := clustersGoodRow.holds Tryz.pinned (OpenSpec.ofChange clustersGoodSpec)

/-- ITS FALSE NEIGHBOUR: 'it returns false'. Refute it at one input. -/
def clustersGoodWrong : ChangeSpec := { name := "clustersGood", fn := fun _ => fun
  | [d1, d2] => { results := [.lit (.bool false)], args := [d1, d2] }
  | _ => none }
def ClustersGoodWrongFalsely : Prop := clustersGoodRow.holds Tryz.pinned (OpenSpec.ofChange clustersGoodWrong)

/-- 'tackroomtop.TopSame': WHATEVER THE INPUT: true; the input reads as it did. -/
def topSameSpec : ChangeSpec := { name := "topSame", fn := fun _ => fun
  | [d] => { results := [.lit (.bool true)], args := [d] }
  | _ => none }
def topSameRow : OpenClaim := { program := "ytijilhbdbeajjaagreatdoor", sum := "a3631c9f51a6329c39085c5aa3f4672035f93d3da66d6bd5e9937ff2e6819c63", func := "tackroom/tackroomtop.TopSame", spec := "topSame", inPlace := ["internal/abi.NoEscape", "slices.overlaps[tackroom/api.Session]", "slices.overlaps[tackroom/api.Lock]", "slices.overlaps[tackroom/api.Pair]", "slices.overlaps[tackroom/api.Kept]"], unfollowed := true, recurses := true, named := ["internal/strconv.uint64pow10", "math/bits.deBruijn32tab", "math/bits.deBruijn64tab"], plainKeys := false, apart := false, laid := [("math/bits.deBruijn32tab", laid_math_bits_deBruijn32tab), ("math/bits.deBruijn64tab", laid_math_bits_deBruijn64tab), ("internal/strconv.uint64pow10", laid_internal_strconv_uint64pow10)] }
def TopSameSaid : Prop := topSameRow.holds Tryz.pinned (OpenSpec.ofChange topSameSpec)

/-- ITS FALSE NEIGHBOUR: 'it returns false'. Refute it at one input. -/
def topSameWrong : ChangeSpec := { name := "topSame", fn := fun _ => fun
  | [d] => { results := [.lit (.bool false)], args := [d] }
  | _ => none }
def TopSameWrongFalsely : Prop := topSameRow.holds Tryz.pinned (OpenSpec.ofChange topSameWrong)

/-- 'tackroomtop.TopOnce': WHATEVER THE INPUT: true; the input reads as it did. -/
def topOnceSpec : ChangeSpec := { name := "topOnce", fn := fun _ => fun
  | [d] => { results := [.lit (.bool true)], args := [d] }
  | _ => none }
def topOnceRow : OpenClaim := { program := "ytijilhbdbeajjaagreatdoor", sum := "a3631c9f51a6329c39085c5aa3f4672035f93d3da66d6bd5e9937ff2e6819c63", func := "tackroom/tackroomtop.TopOnce", spec := "topOnce", inPlace := ["internal/abi.NoEscape", "slices.overlaps[tackroom/api.Session]", "slices.overlaps[tackroom/api.Lock]", "slices.overlaps[tackroom/api.Pair]", "slices.overlaps[tackroom/api.Kept]"], unfollowed := true, recurses := true, named := ["internal/strconv.uint64pow10", "math/bits.deBruijn32tab", "math/bits.deBruijn64tab"], plainKeys := false, apart := false, laid := [("math/bits.deBruijn32tab", laid_math_bits_deBruijn32tab), ("math/bits.deBruijn64tab", laid_math_bits_deBruijn64tab), ("internal/strconv.uint64pow10", laid_internal_strconv_uint64pow10)] }
def TopOnceSaid : Prop := topOnceRow.holds Tryz.pinned (OpenSpec.ofChange topOnceSpec)

/-- ITS FALSE NEIGHBOUR: 'it returns false'. Refute it at one input. -/
def topOnceWrong : ChangeSpec := { name := "topOnce", fn := fun _ => fun
  | [d] => { results := [.lit (.bool false)], args := [d] }
  | _ => none }
def TopOnceWrongFalsely : Prop := topOnceRow.holds Tryz.pinned (OpenSpec.ofChange topOnceWrong)

/-- 'tackroomtop.TopFences': WHATEVER THE INPUT: true; the input reads as it did. -/
def topFencesSpec : ChangeSpec := { name := "topFences", fn := fun _ => fun
  | [d] => { results := [.lit (.bool true)], args := [d] }
  | _ => none }
def topFencesRow : OpenClaim := { program := "ytijilhbdbeajjaagreatdoor", sum := "a3631c9f51a6329c39085c5aa3f4672035f93d3da66d6bd5e9937ff2e6819c63", func := "tackroom/tackroomtop.TopFences", spec := "topFences", inPlace := ["internal/abi.NoEscape", "slices.overlaps[tackroom/api.Session]", "slices.overlaps[tackroom/api.Lock]", "slices.overlaps[tackroom/api.Pair]", "slices.overlaps[tackroom/api.Kept]"], unfollowed := true, recurses := true, named := ["internal/strconv.uint64pow10", "math/bits.deBruijn32tab", "math/bits.deBruijn64tab"], plainKeys := false, apart := false, laid := [("math/bits.deBruijn32tab", laid_math_bits_deBruijn32tab), ("math/bits.deBruijn64tab", laid_math_bits_deBruijn64tab), ("internal/strconv.uint64pow10", laid_internal_strconv_uint64pow10)] }
def TopFencesSaid : Prop := topFencesRow.holds Tryz.pinned (OpenSpec.ofChange topFencesSpec)

/-- ITS FALSE NEIGHBOUR: 'it returns false'. Refute it at one input. -/
def topFencesWrong : ChangeSpec := { name := "topFences", fn := fun _ => fun
  | [d] => { results := [.lit (.bool false)], args := [d] }
  | _ => none }
def TopFencesWrongFalsely : Prop := topFencesRow.holds Tryz.pinned (OpenSpec.ofChange topFencesWrong)

/-- 'tackroomtop.TopReplies': WHATEVER THE INPUT: true; the input reads as it did. -/
def topRepliesSpec : ChangeSpec := { name := "topReplies", fn := fun _ => fun
  | [d] => { results := [.lit (.bool true)], args := [d] }
  | _ => none }
def topRepliesRow : OpenClaim := { program := "ytijilhbdbeajjaagreatdoor", sum := "a3631c9f51a6329c39085c5aa3f4672035f93d3da66d6bd5e9937ff2e6819c63", func := "tackroom/tackroomtop.TopReplies", spec := "topReplies", inPlace := ["internal/abi.NoEscape", "slices.overlaps[tackroom/api.Session]", "slices.overlaps[tackroom/api.Lock]", "slices.overlaps[tackroom/api.Pair]", "slices.overlaps[tackroom/api.Kept]"], unfollowed := true, recurses := true, named := ["internal/strconv.uint64pow10", "math/bits.deBruijn32tab", "math/bits.deBruijn64tab"], plainKeys := false, apart := false, laid := [("math/bits.deBruijn32tab", laid_math_bits_deBruijn32tab), ("math/bits.deBruijn64tab", laid_math_bits_deBruijn64tab), ("internal/strconv.uint64pow10", laid_internal_strconv_uint64pow10)] }
def TopRepliesSaid : Prop := topRepliesRow.holds Tryz.pinned (OpenSpec.ofChange topRepliesSpec)

/-- ITS FALSE NEIGHBOUR: 'it returns false'. Refute it at one input. -/
def topRepliesWrong : ChangeSpec := { name := "topReplies", fn := fun _ => fun
  | [d] => { results := [.lit (.bool false)], args := [d] }
  | _ => none }
def TopRepliesWrongFalsely : Prop := topRepliesRow.holds Tryz.pinned (OpenSpec.ofChange topRepliesWrong)

/-- 'tackroomtop.TopCatch': WHATEVER THE INPUT: true; the input reads as it did. -/
def topCatchSpec : ChangeSpec := { name := "topCatch", fn := fun _ => fun
  | [d] => { results := [.lit (.bool true)], args := [d] }
  | _ => none }
def topCatchRow : OpenClaim := { program := "ytijilhbdbeajjaagreatdoor", sum := "a3631c9f51a6329c39085c5aa3f4672035f93d3da66d6bd5e9937ff2e6819c63", func := "tackroom/tackroomtop.TopCatch", spec := "topCatch", inPlace := ["internal/abi.NoEscape", "slices.overlaps[tackroom/api.Session]", "slices.overlaps[tackroom/api.Lock]", "slices.overlaps[tackroom/api.Pair]", "slices.overlaps[tackroom/api.Kept]"], unfollowed := true, recurses := true, named := ["internal/strconv.uint64pow10", "math/bits.deBruijn32tab", "math/bits.deBruijn64tab"], plainKeys := false, apart := false, laid := [("math/bits.deBruijn32tab", laid_math_bits_deBruijn32tab), ("math/bits.deBruijn64tab", laid_math_bits_deBruijn64tab), ("internal/strconv.uint64pow10", laid_internal_strconv_uint64pow10)] }
def TopCatchSaid : Prop := topCatchRow.holds Tryz.pinned (OpenSpec.ofChange topCatchSpec)

/-- ITS FALSE NEIGHBOUR: 'it returns false'. Refute it at one input. -/
def topCatchWrong : ChangeSpec := { name := "topCatch", fn := fun _ => fun
  | [d] => { results := [.lit (.bool false)], args := [d] }
  | _ => none }
def TopCatchWrongFalsely : Prop := topCatchRow.holds Tryz.pinned (OpenSpec.ofChange topCatchWrong)

/-- 'tackroomtop.TopCrash': WHATEVER THE INPUT: true; the input reads as it did. -/
def topCrashSpec : ChangeSpec := { name := "topCrash", fn := fun _ => fun
  | [d1, d2] => { results := [.lit (.bool true)], args := [d1, d2] }
  | _ => none }
def topCrashRow : OpenClaim := { program := "ytijilhbdbeajjaagreatdoor", sum := "a3631c9f51a6329c39085c5aa3f4672035f93d3da66d6bd5e9937ff2e6819c63", func := "tackroom/tackroomtop.TopCrash", spec := "topCrash", inPlace := ["internal/abi.NoEscape", "slices.overlaps[tackroom/api.Session]", "slices.overlaps[tackroom/api.Lock]", "slices.overlaps[tackroom/api.Pair]", "slices.overlaps[tackroom/api.Kept]"], unfollowed := true, recurses := true, named := ["internal/strconv.uint64pow10", "math/bits.deBruijn32tab", "math/bits.deBruijn64tab"], plainKeys := false, apart := false, laid := [("math/bits.deBruijn32tab", laid_math_bits_deBruijn32tab), ("math/bits.deBruijn64tab", laid_math_bits_deBruijn64tab), ("internal/strconv.uint64pow10", laid_internal_strconv_uint64pow10)] }
def TopCrashSaid : Prop := topCrashRow.holds Tryz.pinned (OpenSpec.ofChange topCrashSpec)

/-- ITS FALSE NEIGHBOUR: 'it returns false'. Refute it at one input. -/
def topCrashWrong : ChangeSpec := { name := "topCrash", fn := fun _ => fun
  | [d1, d2] => { results := [.lit (.bool false)], args := [d1, d2] }
  | _ => none }
def TopCrashWrongFalsely : Prop := topCrashRow.holds Tryz.pinned (OpenSpec.ofChange topCrashWrong)

/-- 'tackroomtop.TopStays': WHATEVER THE INPUT: true; the input reads as it did. -/
def topStaysSpec : ChangeSpec := { name := "topStays", fn := fun _ => fun
  | [d1, d2] => { results := [.lit (.bool true)], args := [d1, d2] }
  | _ => none }
def topStaysRow : OpenClaim := { program := "ytijilhbdbeajjaagreatdoor", sum := "a3631c9f51a6329c39085c5aa3f4672035f93d3da66d6bd5e9937ff2e6819c63", func := "tackroom/tackroomtop.TopStays", spec := "topStays", inPlace := ["internal/abi.NoEscape", "slices.overlaps[tackroom/api.Session]", "slices.overlaps[tackroom/api.Lock]", "slices.overlaps[tackroom/api.Pair]", "slices.overlaps[tackroom/api.Kept]"], unfollowed := true, recurses := true, named := ["internal/strconv.uint64pow10", "math/bits.deBruijn32tab", "math/bits.deBruijn64tab"], plainKeys := false, apart := false, laid := [("math/bits.deBruijn32tab", laid_math_bits_deBruijn32tab), ("math/bits.deBruijn64tab", laid_math_bits_deBruijn64tab), ("internal/strconv.uint64pow10", laid_internal_strconv_uint64pow10)] }
def TopStaysSaid : Prop := topStaysRow.holds Tryz.pinned (OpenSpec.ofChange topStaysSpec)

/-- ITS FALSE NEIGHBOUR: 'it returns false'. Refute it at one input. -/
def topStaysWrong : ChangeSpec := { name := "topStays", fn := fun _ => fun
  | [d1, d2] => { results := [.lit (.bool false)], args := [d1, d2] }
  | _ => none }
def TopStaysWrongFalsely : Prop := topStaysRow.holds Tryz.pinned (OpenSpec.ofChange topStaysWrong)

/-- 'tackroomtop.TopTwice': WHATEVER THE INPUT: true; the input reads as it did. -/
def topTwiceSpec : ChangeSpec := { name := "topTwice", fn := fun _ => fun
  | [d] => { results := [.lit (.bool true)], args := [d] }
  | _ => none }
def topTwiceRow : OpenClaim := { program := "ytijilhbdbeajjaagreatdoor", sum := "a3631c9f51a6329c39085c5aa3f4672035f93d3da66d6bd5e9937ff2e6819c63", func := "tackroom/tackroomtop.TopTwice", spec := "topTwice", inPlace := ["internal/abi.NoEscape", "slices.overlaps[tackroom/api.Session]", "slices.overlaps[tackroom/api.Lock]", "slices.overlaps[tackroom/api.Pair]", "slices.overlaps[tackroom/api.Kept]"], unfollowed := true, recurses := true, named := ["internal/strconv.uint64pow10", "math/bits.deBruijn32tab", "math/bits.deBruijn64tab"], plainKeys := false, apart := false, laid := [("math/bits.deBruijn32tab", laid_math_bits_deBruijn32tab), ("math/bits.deBruijn64tab", laid_math_bits_deBruijn64tab), ("internal/strconv.uint64pow10", laid_internal_strconv_uint64pow10)] }
def TopTwiceSaid : Prop := topTwiceRow.holds Tryz.pinned (OpenSpec.ofChange topTwiceSpec)

/-- ITS FALSE NEIGHBOUR: 'it returns false'. Refute it at one input. -/
def topTwiceWrong : ChangeSpec := { name := "topTwice", fn := fun _ => fun
  | [d] => { results := [.lit (.bool false)], args := [d] }
  | _ => none }
def TopTwiceWrongFalsely : Prop := topTwiceRow.holds Tryz.pinned (OpenSpec.ofChange topTwiceWrong)

/- THE SECOND FORM. 'bulk': how many values and letters a reading holds, each counted each time it is reached (what is shared counts as often as it is met; a slice's spare places count too). A statement '..UptoSaid' is the law's where the arguments, and the package variables that the reading takes, are together of bulk at most 1048576: NARROWER than '..Said'. Prove '..Said' where nothing that the law and all that it calls make is longer than what came in: it says more and counts as full. Else prove '..UptoSaid'. A law counts once. -/
mutual
def uptoBulk {H : Type} : DataW H → Nat
  | .lit (.string bytes) => bytes.length + 1
  | .lit _ => 1
  | .nil => 1
  | .ptr d => uptoBulk d + 1
  | .slice elems spare => uptoBulkAll elems + uptoBulkAll spare + 1
  | .agg parts => uptoBulkAll parts + 1
  | .iface _ d => uptoBulk d + 1
  | .map entries => uptoBulkEntries entries + 1
  | .held _ => 1
def uptoBulkAll {H : Type} : List (DataW H) → Nat
  | [] => 0
  | d :: r => uptoBulk d + uptoBulkAll r
def uptoBulkEntries {H : Type} : List (Lit × DataW H) → Nat
  | [] => 0
  | x :: r => uptoBulkEntry x + uptoBulkEntries r
def uptoBulkEntry {H : Type} : Lit × DataW H → Nat
  | (.string bytes, d) => bytes.length + uptoBulk d + 1
  | (_, d) => uptoBulk d + 1
 end
def uptoSmall : (H : Type) → List (DataW H) → Bool := fun _ ds => decide (uptoBulkAll ds ≤ 1048576)
def OpenSpec.upto (s : _root_.Go.ChangeSpec) : _root_.Go.OpenSpec := { _root_.Go.OpenSpec.ofChange s with cond := some uptoSmall }

/-- 'tackroomkeep.ClustersGood', WHERE WHAT IT READS IS OF BULK AT MOST 1048576: true; the input reads as it did. -/
def clustersGoodUptoRow : OpenClaim := { program := "ytijilhbdbeajjaagreatdoor", sum := "a3631c9f51a6329c39085c5aa3f4672035f93d3da66d6bd5e9937ff2e6819c63", func := "tackroom/tackroomkeep.ClustersGood", spec := "clustersGood", inPlace := ["internal/abi.NoEscape", "slices.overlaps[tackroom/api.Session]", "slices.overlaps[tackroom/api.Lock]", "slices.overlaps[tackroom/api.Pair]", "slices.overlaps[tackroom/api.Kept]"], unfollowed := true, recurses := true, named := ["internal/strconv.uint64pow10", "math/bits.deBruijn32tab", "math/bits.deBruijn64tab"], plainKeys := false, apart := false, laid := [("math/bits.deBruijn32tab", laid_math_bits_deBruijn32tab), ("math/bits.deBruijn64tab", laid_math_bits_deBruijn64tab), ("internal/strconv.uint64pow10", laid_internal_strconv_uint64pow10)], narrowed := true }
def ClustersGoodUptoSaid : Prop := clustersGoodUptoRow.holds Tryz.pinned (OpenSpec.upto clustersGoodSpec)

/-- 'tackroomtop.TopSame', WHERE WHAT IT READS IS OF BULK AT MOST 1048576: true; the input reads as it did. -/
def topSameUptoRow : OpenClaim := { program := "ytijilhbdbeajjaagreatdoor", sum := "a3631c9f51a6329c39085c5aa3f4672035f93d3da66d6bd5e9937ff2e6819c63", func := "tackroom/tackroomtop.TopSame", spec := "topSame", inPlace := ["internal/abi.NoEscape", "slices.overlaps[tackroom/api.Session]", "slices.overlaps[tackroom/api.Lock]", "slices.overlaps[tackroom/api.Pair]", "slices.overlaps[tackroom/api.Kept]"], unfollowed := true, recurses := true, named := ["internal/strconv.uint64pow10", "math/bits.deBruijn32tab", "math/bits.deBruijn64tab"], plainKeys := false, apart := false, laid := [("math/bits.deBruijn32tab", laid_math_bits_deBruijn32tab), ("math/bits.deBruijn64tab", laid_math_bits_deBruijn64tab), ("internal/strconv.uint64pow10", laid_internal_strconv_uint64pow10)], narrowed := true }
def TopSameUptoSaid : Prop := topSameUptoRow.holds Tryz.pinned (OpenSpec.upto topSameSpec)

/-- 'tackroomtop.TopOnce', WHERE WHAT IT READS IS OF BULK AT MOST 1048576: true; the input reads as it did. -/
def topOnceUptoRow : OpenClaim := { program := "ytijilhbdbeajjaagreatdoor", sum := "a3631c9f51a6329c39085c5aa3f4672035f93d3da66d6bd5e9937ff2e6819c63", func := "tackroom/tackroomtop.TopOnce", spec := "topOnce", inPlace := ["internal/abi.NoEscape", "slices.overlaps[tackroom/api.Session]", "slices.overlaps[tackroom/api.Lock]", "slices.overlaps[tackroom/api.Pair]", "slices.overlaps[tackroom/api.Kept]"], unfollowed := true, recurses := true, named := ["internal/strconv.uint64pow10", "math/bits.deBruijn32tab", "math/bits.deBruijn64tab"], plainKeys := false, apart := false, laid := [("math/bits.deBruijn32tab", laid_math_bits_deBruijn32tab), ("math/bits.deBruijn64tab", laid_math_bits_deBruijn64tab), ("internal/strconv.uint64pow10", laid_internal_strconv_uint64pow10)], narrowed := true }
def TopOnceUptoSaid : Prop := topOnceUptoRow.holds Tryz.pinned (OpenSpec.upto topOnceSpec)

/-- 'tackroomtop.TopFences', WHERE WHAT IT READS IS OF BULK AT MOST 1048576: true; the input reads as it did. -/
def topFencesUptoRow : OpenClaim := { program := "ytijilhbdbeajjaagreatdoor", sum := "a3631c9f51a6329c39085c5aa3f4672035f93d3da66d6bd5e9937ff2e6819c63", func := "tackroom/tackroomtop.TopFences", spec := "topFences", inPlace := ["internal/abi.NoEscape", "slices.overlaps[tackroom/api.Session]", "slices.overlaps[tackroom/api.Lock]", "slices.overlaps[tackroom/api.Pair]", "slices.overlaps[tackroom/api.Kept]"], unfollowed := true, recurses := true, named := ["internal/strconv.uint64pow10", "math/bits.deBruijn32tab", "math/bits.deBruijn64tab"], plainKeys := false, apart := false, laid := [("math/bits.deBruijn32tab", laid_math_bits_deBruijn32tab), ("math/bits.deBruijn64tab", laid_math_bits_deBruijn64tab), ("internal/strconv.uint64pow10", laid_internal_strconv_uint64pow10)], narrowed := true }
def TopFencesUptoSaid : Prop := topFencesUptoRow.holds Tryz.pinned (OpenSpec.upto topFencesSpec)

/-- 'tackroomtop.TopReplies', WHERE WHAT IT READS IS OF BULK AT MOST 1048576: true; the input reads as it did. -/
def topRepliesUptoRow : OpenClaim := { program := "ytijilhbdbeajjaagreatdoor", sum := "a3631c9f51a6329c39085c5aa3f4672035f93d3da66d6bd5e9937ff2e6819c63", func := "tackroom/tackroomtop.TopReplies", spec := "topReplies", inPlace := ["internal/abi.NoEscape", "slices.overlaps[tackroom/api.Session]", "slices.overlaps[tackroom/api.Lock]", "slices.overlaps[tackroom/api.Pair]", "slices.overlaps[tackroom/api.Kept]"], unfollowed := true, recurses := true, named := ["internal/strconv.uint64pow10", "math/bits.deBruijn32tab", "math/bits.deBruijn64tab"], plainKeys := false, apart := false, laid := [("math/bits.deBruijn32tab", laid_math_bits_deBruijn32tab), ("math/bits.deBruijn64tab", laid_math_bits_deBruijn64tab), ("internal/strconv.uint64pow10", laid_internal_strconv_uint64pow10)], narrowed := true }
def TopRepliesUptoSaid : Prop := topRepliesUptoRow.holds Tryz.pinned (OpenSpec.upto topRepliesSpec)

/-- 'tackroomtop.TopCatch', WHERE WHAT IT READS IS OF BULK AT MOST 1048576: true; the input reads as it did. -/
def topCatchUptoRow : OpenClaim := { program := "ytijilhbdbeajjaagreatdoor", sum := "a3631c9f51a6329c39085c5aa3f4672035f93d3da66d6bd5e9937ff2e6819c63", func := "tackroom/tackroomtop.TopCatch", spec := "topCatch", inPlace := ["internal/abi.NoEscape", "slices.overlaps[tackroom/api.Session]", "slices.overlaps[tackroom/api.Lock]", "slices.overlaps[tackroom/api.Pair]", "slices.overlaps[tackroom/api.Kept]"], unfollowed := true, recurses := true, named := ["internal/strconv.uint64pow10", "math/bits.deBruijn32tab", "math/bits.deBruijn64tab"], plainKeys := false, apart := false, laid := [("math/bits.deBruijn32tab", laid_math_bits_deBruijn32tab), ("math/bits.deBruijn64tab", laid_math_bits_deBruijn64tab), ("internal/strconv.uint64pow10", laid_internal_strconv_uint64pow10)], narrowed := true }
def TopCatchUptoSaid : Prop := topCatchUptoRow.holds Tryz.pinned (OpenSpec.upto topCatchSpec)

/-- 'tackroomtop.TopCrash', WHERE WHAT IT READS IS OF BULK AT MOST 1048576: true; the input reads as it did. -/
def topCrashUptoRow : OpenClaim := { program := "ytijilhbdbeajjaagreatdoor", sum := "a3631c9f51a6329c39085c5aa3f4672035f93d3da66d6bd5e9937ff2e6819c63", func := "tackroom/tackroomtop.TopCrash", spec := "topCrash", inPlace := ["internal/abi.NoEscape", "slices.overlaps[tackroom/api.Session]", "slices.overlaps[tackroom/api.Lock]", "slices.overlaps[tackroom/api.Pair]", "slices.overlaps[tackroom/api.Kept]"], unfollowed := true, recurses := true, named := ["internal/strconv.uint64pow10", "math/bits.deBruijn32tab", "math/bits.deBruijn64tab"], plainKeys := false, apart := false, laid := [("math/bits.deBruijn32tab", laid_math_bits_deBruijn32tab), ("math/bits.deBruijn64tab", laid_math_bits_deBruijn64tab), ("internal/strconv.uint64pow10", laid_internal_strconv_uint64pow10)], narrowed := true }
def TopCrashUptoSaid : Prop := topCrashUptoRow.holds Tryz.pinned (OpenSpec.upto topCrashSpec)

/-- 'tackroomtop.TopStays', WHERE WHAT IT READS IS OF BULK AT MOST 1048576: true; the input reads as it did. -/
def topStaysUptoRow : OpenClaim := { program := "ytijilhbdbeajjaagreatdoor", sum := "a3631c9f51a6329c39085c5aa3f4672035f93d3da66d6bd5e9937ff2e6819c63", func := "tackroom/tackroomtop.TopStays", spec := "topStays", inPlace := ["internal/abi.NoEscape", "slices.overlaps[tackroom/api.Session]", "slices.overlaps[tackroom/api.Lock]", "slices.overlaps[tackroom/api.Pair]", "slices.overlaps[tackroom/api.Kept]"], unfollowed := true, recurses := true, named := ["internal/strconv.uint64pow10", "math/bits.deBruijn32tab", "math/bits.deBruijn64tab"], plainKeys := false, apart := false, laid := [("math/bits.deBruijn32tab", laid_math_bits_deBruijn32tab), ("math/bits.deBruijn64tab", laid_math_bits_deBruijn64tab), ("internal/strconv.uint64pow10", laid_internal_strconv_uint64pow10)], narrowed := true }
def TopStaysUptoSaid : Prop := topStaysUptoRow.holds Tryz.pinned (OpenSpec.upto topStaysSpec)

/-- 'tackroomtop.TopTwice', WHERE WHAT IT READS IS OF BULK AT MOST 1048576: true; the input reads as it did. -/
def topTwiceUptoRow : OpenClaim := { program := "ytijilhbdbeajjaagreatdoor", sum := "a3631c9f51a6329c39085c5aa3f4672035f93d3da66d6bd5e9937ff2e6819c63", func := "tackroom/tackroomtop.TopTwice", spec := "topTwice", inPlace := ["internal/abi.NoEscape", "slices.overlaps[tackroom/api.Session]", "slices.overlaps[tackroom/api.Lock]", "slices.overlaps[tackroom/api.Pair]", "slices.overlaps[tackroom/api.Kept]"], unfollowed := true, recurses := true, named := ["internal/strconv.uint64pow10", "math/bits.deBruijn32tab", "math/bits.deBruijn64tab"], plainKeys := false, apart := false, laid := [("math/bits.deBruijn32tab", laid_math_bits_deBruijn32tab), ("math/bits.deBruijn64tab", laid_math_bits_deBruijn64tab), ("internal/strconv.uint64pow10", laid_internal_strconv_uint64pow10)], narrowed := true }
def TopTwiceUptoSaid : Prop := topTwiceUptoRow.holds Tryz.pinned (OpenSpec.upto topTwiceSpec)

end Rows
end Go.Proofs.YtijilhbdbeajjaaGreatDoor
