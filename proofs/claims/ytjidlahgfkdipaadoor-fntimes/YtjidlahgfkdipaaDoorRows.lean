/-
  NARROWER THAN 'FOR EVERY INPUT', by the rows' own cells (each row's printed sentence says how): FnExactTimeOf: laid · FnExactDayOf: laid · FnExactShortTime: laid · FnExactLongTime: laid · FnExactReadTime: laid · FnTimes: laid.
  DERIVED. THE GIVEN ROWS OF THIS SEAT. 6 by the template 'for every input the law returns true; each argument reads behind the call as it read before'; 0 by the template 'total and deterministic' (their statements: YtjidlahgfkdipaaDoorTotals.lean).
  GIVEN WITH THE SEED: the statements are not yours to turn. If you find one false, say at which input.
  Laid BY PROGRAM, IN A SANDBOX (cutbox-rows.mjs): the forced cells as the released guide's own fill.sh prints them over the translation 7519f34cb5356505… (all of the seat's roots in one cut). By AI agents, Wed Nov 11 2026. No macro, syntax, notation, axiom, sorry.
-/
import Derived.Test.YtjidlahgfkdipaaDoorChecked
import GoSem.Claim
import GoSem.ClaimJoined
import GoSem.ClaimMapViews
import Derived.JoinedTies
import Derived.KernelRfl
namespace Go.Proofs.YtjidlahgfkdipaaDoor
/- THE CELL 'sum', in the pinned program and in every row, IS THE sha256 OF THE DUMP (.gsa) THAT YtjidlahgfkdipaaDoorProg.lean LOADS. Nothing in Lean hashes anything: it is a label: what it is worth is what the hold of that sum in a sandbox is worth. -/
noncomputable def Tryd.pinned : Pinned := { name := "ytjidlahgfkdipaadoor", sum := "7519f34cb5356505e3311e19c4fb0955857ed0f6c519cf707aa0d645a5459c08", checked := Tryd.checked }
namespace Rows
def none {H : Type} : Left H := { results := [], args := [] }

/- WHAT THE LISTED PACKAGE-LEVEL VARIABLES READ AS WHEN THE CALL BEGINS. Each datum BY PROGRAM (the guide's laid-datum.mjs) off the statement by which the dump's own 'gosem.cut.vars' lays the variable. In a bare row this is a premise. The card (YtjidlahgfkdipaaDoorCards.lean) ties it to the program's text. -/
def laid_loop_example_g00148_impl_monthDays {H : Type} : DataW H := .agg [.lit (.int .i64 31), .lit (.int .i64 28), .lit (.int .i64 31), .lit (.int .i64 30), .lit (.int .i64 31), .lit (.int .i64 30), .lit (.int .i64 31), .lit (.int .i64 31), .lit (.int .i64 30), .lit (.int .i64 31), .lit (.int .i64 30), .lit (.int .i64 31)]
def laid_math_bits_deBruijn32tab {H : Type} : DataW H := .agg [.lit (.int .u8 0), .lit (.int .u8 1), .lit (.int .u8 28), .lit (.int .u8 2), .lit (.int .u8 29), .lit (.int .u8 14), .lit (.int .u8 24), .lit (.int .u8 3), .lit (.int .u8 30), .lit (.int .u8 22), .lit (.int .u8 20), .lit (.int .u8 15), .lit (.int .u8 25), .lit (.int .u8 17), .lit (.int .u8 4), .lit (.int .u8 8), .lit (.int .u8 31), .lit (.int .u8 27), .lit (.int .u8 13), .lit (.int .u8 23), .lit (.int .u8 21), .lit (.int .u8 19), .lit (.int .u8 16), .lit (.int .u8 7), .lit (.int .u8 26), .lit (.int .u8 12), .lit (.int .u8 18), .lit (.int .u8 6), .lit (.int .u8 11), .lit (.int .u8 5), .lit (.int .u8 10), .lit (.int .u8 9)]
def laid_math_bits_deBruijn64tab {H : Type} : DataW H := .agg [.lit (.int .u8 0), .lit (.int .u8 1), .lit (.int .u8 56), .lit (.int .u8 2), .lit (.int .u8 57), .lit (.int .u8 49), .lit (.int .u8 28), .lit (.int .u8 3), .lit (.int .u8 61), .lit (.int .u8 58), .lit (.int .u8 42), .lit (.int .u8 50), .lit (.int .u8 38), .lit (.int .u8 29), .lit (.int .u8 17), .lit (.int .u8 4), .lit (.int .u8 62), .lit (.int .u8 47), .lit (.int .u8 59), .lit (.int .u8 36), .lit (.int .u8 45), .lit (.int .u8 43), .lit (.int .u8 51), .lit (.int .u8 22), .lit (.int .u8 53), .lit (.int .u8 39), .lit (.int .u8 33), .lit (.int .u8 30), .lit (.int .u8 24), .lit (.int .u8 18), .lit (.int .u8 12), .lit (.int .u8 5), .lit (.int .u8 63), .lit (.int .u8 55), .lit (.int .u8 48), .lit (.int .u8 27), .lit (.int .u8 60), .lit (.int .u8 41), .lit (.int .u8 37), .lit (.int .u8 16), .lit (.int .u8 46), .lit (.int .u8 35), .lit (.int .u8 44), .lit (.int .u8 21), .lit (.int .u8 52), .lit (.int .u8 32), .lit (.int .u8 23), .lit (.int .u8 11), .lit (.int .u8 54), .lit (.int .u8 26), .lit (.int .u8 40), .lit (.int .u8 15), .lit (.int .u8 34), .lit (.int .u8 20), .lit (.int .u8 31), .lit (.int .u8 10), .lit (.int .u8 25), .lit (.int .u8 14), .lit (.int .u8 19), .lit (.int .u8 9), .lit (.int .u8 13), .lit (.int .u8 8), .lit (.int .u8 7), .lit (.int .u8 6)]
def laid_internal_strconv_uint64pow10 {H : Type} : DataW H := .agg [.lit (.int .u64 1), .lit (.int .u64 10), .lit (.int .u64 100), .lit (.int .u64 1000), .lit (.int .u64 10000), .lit (.int .u64 100000), .lit (.int .u64 1000000), .lit (.int .u64 10000000), .lit (.int .u64 100000000), .lit (.int .u64 1000000000), .lit (.int .u64 10000000000), .lit (.int .u64 100000000000), .lit (.int .u64 1000000000000), .lit (.int .u64 10000000000000), .lit (.int .u64 100000000000000), .lit (.int .u64 1000000000000000), .lit (.int .u64 10000000000000000), .lit (.int .u64 100000000000000000), .lit (.int .u64 1000000000000000000), .lit (.int .u64 10000000000000000000)]
def laid_strconv_ErrRange {H : Type} : DataW H := .iface "*errors.errorString" (.ptr (.agg [.lit (.string [118, 97, 108, 117, 101, 32, 111, 117, 116, 32, 111, 102, 32, 114, 97, 110, 103, 101])]))
def laid_strconv_ErrSyntax {H : Type} : DataW H := .iface "*errors.errorString" (.ptr (.agg [.lit (.string [105, 110, 118, 97, 108, 105, 100, 32, 115, 121, 110, 116, 97, 120])]))

/-- 'laws.FnExactTimeOf': WHATEVER THE INPUT: true; the input reads as it did. -/
def fnExactTimeOfSpec : ChangeSpec := { name := "fnExactTimeOf", vars := ["loop.example/g00148/impl.monthDays"], fn := fun _ => fun
  | [d1, d2, d3, d4, g1] => { results := [.lit (.bool true)], args := [d1, d2, d3, d4], vars := [g1] }
  | _ => none }
def fnExactTimeOfRow : OpenClaim := { program := "ytjidlahgfkdipaadoor", sum := "7519f34cb5356505e3311e19c4fb0955857ed0f6c519cf707aa0d645a5459c08", func := "loop.example/g00148/laws.FnExactTimeOf", spec := "fnExactTimeOf", named := ["loop.example/g00148/impl.monthDays"], apart := false, laid := [("loop.example/g00148/impl.monthDays", laid_loop_example_g00148_impl_monthDays)] }
def FnExactTimeOfSaid : Prop := fnExactTimeOfRow.holds Tryd.pinned (OpenSpec.ofChange fnExactTimeOfSpec)

/-- ITS FALSE NEIGHBOUR: 'it returns false'. Refute it at one input. -/
def fnExactTimeOfWrong : ChangeSpec := { name := "fnExactTimeOf", vars := ["loop.example/g00148/impl.monthDays"], fn := fun _ => fun
  | [d1, d2, d3, d4, g1] => { results := [.lit (.bool false)], args := [d1, d2, d3, d4], vars := [g1] }
  | _ => none }
def FnExactTimeOfWrongFalsely : Prop := fnExactTimeOfRow.holds Tryd.pinned (OpenSpec.ofChange fnExactTimeOfWrong)

/-- 'laws.FnExactDayOf': WHATEVER THE INPUT: true; the input reads as it did. -/
def fnExactDayOfSpec : ChangeSpec := { name := "fnExactDayOf", vars := ["loop.example/g00148/impl.monthDays"], fn := fun _ => fun
  | [d, g1] => { results := [.lit (.bool true)], args := [d], vars := [g1] }
  | _ => none }
def fnExactDayOfRow : OpenClaim := { program := "ytjidlahgfkdipaadoor", sum := "7519f34cb5356505e3311e19c4fb0955857ed0f6c519cf707aa0d645a5459c08", func := "loop.example/g00148/laws.FnExactDayOf", spec := "fnExactDayOf", named := ["loop.example/g00148/impl.monthDays"], apart := false, laid := [("loop.example/g00148/impl.monthDays", laid_loop_example_g00148_impl_monthDays)] }
def FnExactDayOfSaid : Prop := fnExactDayOfRow.holds Tryd.pinned (OpenSpec.ofChange fnExactDayOfSpec)

/-- ITS FALSE NEIGHBOUR: 'it returns false'. Refute it at one input. -/
def fnExactDayOfWrong : ChangeSpec := { name := "fnExactDayOf", vars := ["loop.example/g00148/impl.monthDays"], fn := fun _ => fun
  | [d, g1] => { results := [.lit (.bool false)], args := [d], vars := [g1] }
  | _ => none }
def FnExactDayOfWrongFalsely : Prop := fnExactDayOfRow.holds Tryd.pinned (OpenSpec.ofChange fnExactDayOfWrong)

/-- 'laws.FnExactShortTime': WHATEVER THE INPUT: true; the input reads as it did. -/
def fnExactShortTimeSpec : ChangeSpec := { name := "fnExactShortTime", vars := ["loop.example/g00148/impl.monthDays"], fn := fun _ => fun
  | [d, g1] => { results := [.lit (.bool true)], args := [d], vars := [g1] }
  | _ => none }
def fnExactShortTimeRow : OpenClaim := { program := "ytjidlahgfkdipaadoor", sum := "7519f34cb5356505e3311e19c4fb0955857ed0f6c519cf707aa0d645a5459c08", func := "loop.example/g00148/laws.FnExactShortTime", spec := "fnExactShortTime", named := ["loop.example/g00148/impl.monthDays", "internal/strconv.uint64pow10", "math/bits.deBruijn32tab", "math/bits.deBruijn64tab"], apart := false, laid := [("math/bits.deBruijn32tab", laid_math_bits_deBruijn32tab), ("math/bits.deBruijn64tab", laid_math_bits_deBruijn64tab), ("internal/strconv.uint64pow10", laid_internal_strconv_uint64pow10), ("loop.example/g00148/impl.monthDays", laid_loop_example_g00148_impl_monthDays)] }
def FnExactShortTimeSaid : Prop := fnExactShortTimeRow.holds Tryd.pinned (OpenSpec.ofChange fnExactShortTimeSpec)

/-- ITS FALSE NEIGHBOUR: 'it returns false'. Refute it at one input. -/
def fnExactShortTimeWrong : ChangeSpec := { name := "fnExactShortTime", vars := ["loop.example/g00148/impl.monthDays"], fn := fun _ => fun
  | [d, g1] => { results := [.lit (.bool false)], args := [d], vars := [g1] }
  | _ => none }
def FnExactShortTimeWrongFalsely : Prop := fnExactShortTimeRow.holds Tryd.pinned (OpenSpec.ofChange fnExactShortTimeWrong)

/-- 'laws.FnExactLongTime': WHATEVER THE INPUT: true; the input reads as it did. -/
def fnExactLongTimeSpec : ChangeSpec := { name := "fnExactLongTime", vars := ["loop.example/g00148/impl.monthDays"], fn := fun _ => fun
  | [d, g1] => { results := [.lit (.bool true)], args := [d], vars := [g1] }
  | _ => none }
def fnExactLongTimeRow : OpenClaim := { program := "ytjidlahgfkdipaadoor", sum := "7519f34cb5356505e3311e19c4fb0955857ed0f6c519cf707aa0d645a5459c08", func := "loop.example/g00148/laws.FnExactLongTime", spec := "fnExactLongTime", named := ["loop.example/g00148/impl.monthDays", "internal/strconv.uint64pow10", "math/bits.deBruijn32tab", "math/bits.deBruijn64tab"], apart := false, laid := [("math/bits.deBruijn32tab", laid_math_bits_deBruijn32tab), ("math/bits.deBruijn64tab", laid_math_bits_deBruijn64tab), ("internal/strconv.uint64pow10", laid_internal_strconv_uint64pow10), ("loop.example/g00148/impl.monthDays", laid_loop_example_g00148_impl_monthDays)] }
def FnExactLongTimeSaid : Prop := fnExactLongTimeRow.holds Tryd.pinned (OpenSpec.ofChange fnExactLongTimeSpec)

/-- ITS FALSE NEIGHBOUR: 'it returns false'. Refute it at one input. -/
def fnExactLongTimeWrong : ChangeSpec := { name := "fnExactLongTime", vars := ["loop.example/g00148/impl.monthDays"], fn := fun _ => fun
  | [d, g1] => { results := [.lit (.bool false)], args := [d], vars := [g1] }
  | _ => none }
def FnExactLongTimeWrongFalsely : Prop := fnExactLongTimeRow.holds Tryd.pinned (OpenSpec.ofChange fnExactLongTimeWrong)

/-- 'laws.FnExactReadTime': WHATEVER THE INPUT: true; the input reads as it did. -/
def fnExactReadTimeSpec : ChangeSpec := { name := "fnExactReadTime", vars := ["loop.example/g00148/impl.monthDays"], fn := fun _ => fun
  | [d, g1] => { results := [.lit (.bool true)], args := [d], vars := [g1] }
  | _ => none }
def fnExactReadTimeRow : OpenClaim := { program := "ytjidlahgfkdipaadoor", sum := "7519f34cb5356505e3311e19c4fb0955857ed0f6c519cf707aa0d645a5459c08", func := "loop.example/g00148/laws.FnExactReadTime", spec := "fnExactReadTime", named := ["strconv.ErrSyntax", "strconv.ErrRange", "internal/strconv.uint64pow10", "math/bits.deBruijn32tab", "math/bits.deBruijn64tab", "loop.example/g00148/impl.monthDays"], apart := false, laid := [("math/bits.deBruijn32tab", laid_math_bits_deBruijn32tab), ("math/bits.deBruijn64tab", laid_math_bits_deBruijn64tab), ("internal/strconv.uint64pow10", laid_internal_strconv_uint64pow10), ("strconv.ErrRange", laid_strconv_ErrRange), ("strconv.ErrSyntax", laid_strconv_ErrSyntax), ("loop.example/g00148/impl.monthDays", laid_loop_example_g00148_impl_monthDays)] }
def FnExactReadTimeSaid : Prop := fnExactReadTimeRow.holds Tryd.pinned (OpenSpec.ofChange fnExactReadTimeSpec)

/-- ITS FALSE NEIGHBOUR: 'it returns false'. Refute it at one input. -/
def fnExactReadTimeWrong : ChangeSpec := { name := "fnExactReadTime", vars := ["loop.example/g00148/impl.monthDays"], fn := fun _ => fun
  | [d, g1] => { results := [.lit (.bool false)], args := [d], vars := [g1] }
  | _ => none }
def FnExactReadTimeWrongFalsely : Prop := fnExactReadTimeRow.holds Tryd.pinned (OpenSpec.ofChange fnExactReadTimeWrong)

/-- 'laws.FnTimes': WHATEVER THE INPUT: true; the input reads as it did. -/
def fnTimesSpec : ChangeSpec := { name := "fnTimes", vars := ["loop.example/g00148/impl.monthDays"], fn := fun _ => fun
  | [d, g1] => { results := [.lit (.bool true)], args := [d], vars := [g1] }
  | _ => none }
def fnTimesRow : OpenClaim := { program := "ytjidlahgfkdipaadoor", sum := "7519f34cb5356505e3311e19c4fb0955857ed0f6c519cf707aa0d645a5459c08", func := "loop.example/g00148/laws.FnTimes", spec := "fnTimes", named := ["loop.example/g00148/impl.monthDays", "internal/strconv.uint64pow10", "math/bits.deBruijn32tab", "math/bits.deBruijn64tab", "strconv.ErrSyntax", "strconv.ErrRange"], apart := false, laid := [("math/bits.deBruijn32tab", laid_math_bits_deBruijn32tab), ("math/bits.deBruijn64tab", laid_math_bits_deBruijn64tab), ("internal/strconv.uint64pow10", laid_internal_strconv_uint64pow10), ("strconv.ErrRange", laid_strconv_ErrRange), ("strconv.ErrSyntax", laid_strconv_ErrSyntax), ("loop.example/g00148/impl.monthDays", laid_loop_example_g00148_impl_monthDays)] }
def FnTimesSaid : Prop := fnTimesRow.holds Tryd.pinned (OpenSpec.ofChange fnTimesSpec)

/-- ITS FALSE NEIGHBOUR: 'it returns false'. Refute it at one input. -/
def fnTimesWrong : ChangeSpec := { name := "fnTimes", vars := ["loop.example/g00148/impl.monthDays"], fn := fun _ => fun
  | [d, g1] => { results := [.lit (.bool false)], args := [d], vars := [g1] }
  | _ => none }
def FnTimesWrongFalsely : Prop := fnTimesRow.holds Tryd.pinned (OpenSpec.ofChange fnTimesWrong)

/- THE SECOND FORM. 'bulk': how many values and letters a reading holds, each counted each time it is reached (what is shared counts as often as it is met; a slice's spare places count too). A statement '..UptoSaid' is the law's where the arguments, and the package variables that the reading takes, are together of bulk at most 1048576: NARROWER than '..Said'. Prove '..Said' where nothing that the law and all that it calls make is longer than what came in: it says more and counts as full. Else prove '..UptoSaid'. A law counts once. -/
mutual
def uptoBulk {H : Type} : DataW H → Nat
  | .lit (.string bytes) => bytes.length + 1
  | .lit _ => 1
  | .nil => 1
  | .ptr d => uptoBulk d + 1
  | .slice elems spare => uptoBulkAll elems + uptoBulkAll spare + 1
  | .agg parts => uptoBulkAll parts + 1
  | .iface _ d => uptoBulk d + 1
  | .map entries => uptoBulkEntries entries + 1
  | .held _ => 1
def uptoBulkAll {H : Type} : List (DataW H) → Nat
  | [] => 0
  | d :: r => uptoBulk d + uptoBulkAll r
def uptoBulkEntries {H : Type} : List (Lit × DataW H) → Nat
  | [] => 0
  | x :: r => uptoBulkEntry x + uptoBulkEntries r
def uptoBulkEntry {H : Type} : Lit × DataW H → Nat
  | (.string bytes, d) => bytes.length + uptoBulk d + 1
  | (_, d) => uptoBulk d + 1
 end
def uptoSmall : (H : Type) → List (DataW H) → Bool := fun _ ds => decide (uptoBulkAll ds ≤ 1048576)
def OpenSpec.upto (s : _root_.Go.ChangeSpec) : _root_.Go.OpenSpec := { _root_.Go.OpenSpec.ofChange s with cond := some uptoSmall }

/-- 'laws.FnExactTimeOf', WHERE WHAT IT READS IS OF BULK AT MOST 1048576: true; the input reads as it did. -/
def fnExactTimeOfUptoRow : OpenClaim := { program := "ytjidlahgfkdipaadoor", sum := "7519f34cb5356505e3311e19c4fb0955857ed0f6c519cf707aa0d645a5459c08", func := "loop.example/g00148/laws.FnExactTimeOf", spec := "fnExactTimeOf", named := ["loop.example/g00148/impl.monthDays"], apart := false, laid := [("loop.example/g00148/impl.monthDays", laid_loop_example_g00148_impl_monthDays)], narrowed := true }
def FnExactTimeOfUptoSaid : Prop := fnExactTimeOfUptoRow.holds Tryd.pinned (OpenSpec.upto fnExactTimeOfSpec)

/-- 'laws.FnExactDayOf', WHERE WHAT IT READS IS OF BULK AT MOST 1048576: true; the input reads as it did. -/
def fnExactDayOfUptoRow : OpenClaim := { program := "ytjidlahgfkdipaadoor", sum := "7519f34cb5356505e3311e19c4fb0955857ed0f6c519cf707aa0d645a5459c08", func := "loop.example/g00148/laws.FnExactDayOf", spec := "fnExactDayOf", named := ["loop.example/g00148/impl.monthDays"], apart := false, laid := [("loop.example/g00148/impl.monthDays", laid_loop_example_g00148_impl_monthDays)], narrowed := true }
def FnExactDayOfUptoSaid : Prop := fnExactDayOfUptoRow.holds Tryd.pinned (OpenSpec.upto fnExactDayOfSpec)

/-- 'laws.FnExactShortTime', WHERE WHAT IT READS IS OF BULK AT MOST 1048576: true; the input reads as it did. -/
def fnExactShortTimeUptoRow : OpenClaim := { program := "ytjidlahgfkdipaadoor", sum := "7519f34cb5356505e3311e19c4fb0955857ed0f6c519cf707aa0d645a5459c08", func := "loop.example/g00148/laws.FnExactShortTime", spec := "fnExactShortTime", named := ["loop.example/g00148/impl.monthDays", "internal/strconv.uint64pow10", "math/bits.deBruijn32tab", "math/bits.deBruijn64tab"], apart := false, laid := [("math/bits.deBruijn32tab", laid_math_bits_deBruijn32tab), ("math/bits.deBruijn64tab", laid_math_bits_deBruijn64tab), ("internal/strconv.uint64pow10", laid_internal_strconv_uint64pow10), ("loop.example/g00148/impl.monthDays", laid_loop_example_g00148_impl_monthDays)], narrowed := true }
def FnExactShortTimeUptoSaid : Prop := fnExactShortTimeUptoRow.holds Tryd.pinned (OpenSpec.upto fnExactShortTimeSpec)

/-- 'laws.FnExactLongTime', WHERE WHAT IT READS IS OF BULK AT MOST 1048576: true; the input reads as it did. -/
def fnExactLongTimeUptoRow : OpenClaim := { program := "ytjidlahgfkdipaadoor", sum := "7519f34cb5356505e3311e19c4fb0955857ed0f6c519cf707aa0d645a5459c08", func := "loop.example/g00148/laws.FnExactLongTime", spec := "fnExactLongTime", named := ["loop.example/g00148/impl.monthDays", "internal/strconv.uint64pow10", "math/bits.deBruijn32tab", "math/bits.deBruijn64tab"], apart := false, laid := [("math/bits.deBruijn32tab", laid_math_bits_deBruijn32tab), ("math/bits.deBruijn64tab", laid_math_bits_deBruijn64tab), ("internal/strconv.uint64pow10", laid_internal_strconv_uint64pow10), ("loop.example/g00148/impl.monthDays", laid_loop_example_g00148_impl_monthDays)], narrowed := true }
def FnExactLongTimeUptoSaid : Prop := fnExactLongTimeUptoRow.holds Tryd.pinned (OpenSpec.upto fnExactLongTimeSpec)

/-- 'laws.FnExactReadTime', WHERE WHAT IT READS IS OF BULK AT MOST 1048576: true; the input reads as it did. -/
def fnExactReadTimeUptoRow : OpenClaim := { program := "ytjidlahgfkdipaadoor", sum := "7519f34cb5356505e3311e19c4fb0955857ed0f6c519cf707aa0d645a5459c08", func := "loop.example/g00148/laws.FnExactReadTime", spec := "fnExactReadTime", named := ["strconv.ErrSyntax", "strconv.ErrRange", "internal/strconv.uint64pow10", "math/bits.deBruijn32tab", "math/bits.deBruijn64tab", "loop.example/g00148/impl.monthDays"], apart := false, laid := [("math/bits.deBruijn32tab", laid_math_bits_deBruijn32tab), ("math/bits.deBruijn64tab", laid_math_bits_deBruijn64tab), ("internal/strconv.uint64pow10", laid_internal_strconv_uint64pow10), ("strconv.ErrRange", laid_strconv_ErrRange), ("strconv.ErrSyntax", laid_strconv_ErrSyntax), ("loop.example/g00148/impl.monthDays", laid_loop_example_g00148_impl_monthDays)], narrowed := true }
def FnExactReadTimeUptoSaid : Prop := fnExactReadTimeUptoRow.holds Tryd.pinned (OpenSpec.upto fnExactReadTimeSpec)

/-- 'laws.FnTimes', WHERE WHAT IT READS IS OF BULK AT MOST 1048576: true; the input reads as it did. -/
def fnTimesUptoRow : OpenClaim := { program := "ytjidlahgfkdipaadoor", sum := "7519f34cb5356505e3311e19c4fb0955857ed0f6c519cf707aa0d645a5459c08", func := "loop.example/g00148/laws.FnTimes", spec := "fnTimes", named := ["loop.example/g00148/impl.monthDays", "internal/strconv.uint64pow10", "math/bits.deBruijn32tab", "math/bits.deBruijn64tab", "strconv.ErrSyntax", "strconv.ErrRange"], apart := false, laid := [("math/bits.deBruijn32tab", laid_math_bits_deBruijn32tab), ("math/bits.deBruijn64tab", laid_math_bits_deBruijn64tab), ("internal/strconv.uint64pow10", laid_internal_strconv_uint64pow10), ("strconv.ErrRange", laid_strconv_ErrRange), ("strconv.ErrSyntax", laid_strconv_ErrSyntax), ("loop.example/g00148/impl.monthDays", laid_loop_example_g00148_impl_monthDays)], narrowed := true }
def FnTimesUptoSaid : Prop := fnTimesUptoRow.holds Tryd.pinned (OpenSpec.upto fnTimesSpec)

end Rows
end Go.Proofs.YtjidlahgfkdipaaDoor
