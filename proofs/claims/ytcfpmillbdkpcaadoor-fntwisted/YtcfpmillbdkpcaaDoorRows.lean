/-
  NARROWER THAN 'FOR EVERY INPUT', by the rows' own cells (each row's printed sentence says how): FnPointsBack: laid · FnTwisted: laid · FnExactPointBytes: laid · FnExactPointRead: laid · FnExactEdBytes: laid · FnExactEdRead: laid.
  DERIVED. THE GIVEN ROWS OF THIS SEAT. 6 by the template 'for every input the law returns true; each argument reads behind the call as it read before'; 0 by the template 'total and deterministic' (their statements: YtcfpmillbdkpcaaDoorTotals.lean).
  GIVEN WITH THE SEED: the statements are not yours to turn. If you find one false, say at which input.
  Laid BY PROGRAM, IN A SANDBOX (cutbox-rows.mjs): the forced cells as the released guide's own fill.sh prints them over the translation a994d18c50916bc8… (all of the seat's roots in one cut). By AI agents, Wed Nov 11 2026. No macro, syntax, notation, axiom, sorry.
-/
import Derived.Test.YtcfpmillbdkpcaaDoorChecked
import GoSem.Claim
import GoSem.ClaimJoined
import GoSem.ClaimMapViews
import Derived.JoinedTies
import Derived.KernelRfl
namespace Go.Proofs.YtcfpmillbdkpcaaDoor
/- THE CELL 'sum', in the pinned program and in every row, IS THE sha256 OF THE DUMP (.gsa) THAT YtcfpmillbdkpcaaDoorProg.lean LOADS. Nothing in Lean hashes anything: it is a label: what it is worth is what the hold of that sum in a sandbox is worth. -/
noncomputable def Tryd.pinned : Pinned := { name := "ytcfpmillbdkpcaadoor", sum := "a994d18c50916bc8220d4a6be5744b28149cecf73f2419bb270497bbdfec5127", checked := Tryd.checked }
namespace Rows
def none {H : Type} : Left H := { results := [], args := [] }

/- WHAT THE LISTED PACKAGE-LEVEL VARIABLES READ AS WHEN THE CALL BEGINS. Each datum BY PROGRAM (the guide's laid-datum.mjs) off the statement by which the dump's own 'gosem.cut.vars' lays the variable. In a bare row this is a premise. The card (YtcfpmillbdkpcaaDoorCards.lean) ties it to the program's text. -/
def laid_math_bits_deBruijn32tab {H : Type} : DataW H := .agg [.lit (.int .u8 0), .lit (.int .u8 1), .lit (.int .u8 28), .lit (.int .u8 2), .lit (.int .u8 29), .lit (.int .u8 14), .lit (.int .u8 24), .lit (.int .u8 3), .lit (.int .u8 30), .lit (.int .u8 22), .lit (.int .u8 20), .lit (.int .u8 15), .lit (.int .u8 25), .lit (.int .u8 17), .lit (.int .u8 4), .lit (.int .u8 8), .lit (.int .u8 31), .lit (.int .u8 27), .lit (.int .u8 13), .lit (.int .u8 23), .lit (.int .u8 21), .lit (.int .u8 19), .lit (.int .u8 16), .lit (.int .u8 7), .lit (.int .u8 26), .lit (.int .u8 12), .lit (.int .u8 18), .lit (.int .u8 6), .lit (.int .u8 11), .lit (.int .u8 5), .lit (.int .u8 10), .lit (.int .u8 9)]
def laid_math_bits_deBruijn64tab {H : Type} : DataW H := .agg [.lit (.int .u8 0), .lit (.int .u8 1), .lit (.int .u8 56), .lit (.int .u8 2), .lit (.int .u8 57), .lit (.int .u8 49), .lit (.int .u8 28), .lit (.int .u8 3), .lit (.int .u8 61), .lit (.int .u8 58), .lit (.int .u8 42), .lit (.int .u8 50), .lit (.int .u8 38), .lit (.int .u8 29), .lit (.int .u8 17), .lit (.int .u8 4), .lit (.int .u8 62), .lit (.int .u8 47), .lit (.int .u8 59), .lit (.int .u8 36), .lit (.int .u8 45), .lit (.int .u8 43), .lit (.int .u8 51), .lit (.int .u8 22), .lit (.int .u8 53), .lit (.int .u8 39), .lit (.int .u8 33), .lit (.int .u8 30), .lit (.int .u8 24), .lit (.int .u8 18), .lit (.int .u8 12), .lit (.int .u8 5), .lit (.int .u8 63), .lit (.int .u8 55), .lit (.int .u8 48), .lit (.int .u8 27), .lit (.int .u8 60), .lit (.int .u8 41), .lit (.int .u8 37), .lit (.int .u8 16), .lit (.int .u8 46), .lit (.int .u8 35), .lit (.int .u8 44), .lit (.int .u8 21), .lit (.int .u8 52), .lit (.int .u8 32), .lit (.int .u8 23), .lit (.int .u8 11), .lit (.int .u8 54), .lit (.int .u8 26), .lit (.int .u8 40), .lit (.int .u8 15), .lit (.int .u8 34), .lit (.int .u8 20), .lit (.int .u8 31), .lit (.int .u8 10), .lit (.int .u8 25), .lit (.int .u8 14), .lit (.int .u8 19), .lit (.int .u8 9), .lit (.int .u8 13), .lit (.int .u8 8), .lit (.int .u8 7), .lit (.int .u8 6)]

/-- 'laws.FnPointsBack': WHATEVER THE INPUT: true; the input reads as it did. -/
def fnPointsBackSpec : ChangeSpec := { name := "fnPointsBack", fn := fun _ => fun
  | [d] => { results := [.lit (.bool true)], args := [d] }
  | _ => none }
def fnPointsBackRow : OpenClaim := { program := "ytcfpmillbdkpcaadoor", sum := "a994d18c50916bc8220d4a6be5744b28149cecf73f2419bb270497bbdfec5127", func := "loop.example/g00148/laws.FnPointsBack", spec := "fnPointsBack", unfollowed := true, recurses := true, named := ["math/bits.deBruijn32tab", "math/bits.deBruijn64tab"], apart := false, laid := [("math/bits.deBruijn32tab", laid_math_bits_deBruijn32tab), ("math/bits.deBruijn64tab", laid_math_bits_deBruijn64tab)] }
def FnPointsBackSaid : Prop := fnPointsBackRow.holds Tryd.pinned (OpenSpec.ofChange fnPointsBackSpec)

/-- ITS FALSE NEIGHBOUR: 'it returns false'. Refute it at one input. -/
def fnPointsBackWrong : ChangeSpec := { name := "fnPointsBack", fn := fun _ => fun
  | [d] => { results := [.lit (.bool false)], args := [d] }
  | _ => none }
def FnPointsBackWrongFalsely : Prop := fnPointsBackRow.holds Tryd.pinned (OpenSpec.ofChange fnPointsBackWrong)

/-- 'laws.FnTwisted': WHATEVER THE INPUT: true; the input reads as it did. -/
def fnTwistedSpec : ChangeSpec := { name := "fnTwisted", fn := fun _ => fun
  | [d] => { results := [.lit (.bool true)], args := [d] }
  | _ => none }
def fnTwistedRow : OpenClaim := { program := "ytcfpmillbdkpcaadoor", sum := "a994d18c50916bc8220d4a6be5744b28149cecf73f2419bb270497bbdfec5127", func := "loop.example/g00148/laws.FnTwisted", spec := "fnTwisted", unfollowed := true, recurses := true, named := ["math/bits.deBruijn32tab", "math/bits.deBruijn64tab"], apart := false, laid := [("math/bits.deBruijn32tab", laid_math_bits_deBruijn32tab), ("math/bits.deBruijn64tab", laid_math_bits_deBruijn64tab)] }
def FnTwistedSaid : Prop := fnTwistedRow.holds Tryd.pinned (OpenSpec.ofChange fnTwistedSpec)

/-- ITS FALSE NEIGHBOUR: 'it returns false'. Refute it at one input. -/
def fnTwistedWrong : ChangeSpec := { name := "fnTwisted", fn := fun _ => fun
  | [d] => { results := [.lit (.bool false)], args := [d] }
  | _ => none }
def FnTwistedWrongFalsely : Prop := fnTwistedRow.holds Tryd.pinned (OpenSpec.ofChange fnTwistedWrong)

/-- 'laws.FnExactPointBytes': WHATEVER THE INPUT: true; the input reads as it did. -/
def fnExactPointBytesSpec : ChangeSpec := { name := "fnExactPointBytes", fn := fun _ => fun
  | [d1, d2, d3] => { results := [.lit (.bool true)], args := [d1, d2, d3] }
  | _ => none }
def fnExactPointBytesRow : OpenClaim := { program := "ytcfpmillbdkpcaadoor", sum := "a994d18c50916bc8220d4a6be5744b28149cecf73f2419bb270497bbdfec5127", func := "loop.example/g00148/laws.FnExactPointBytes", spec := "fnExactPointBytes", unfollowed := true, recurses := true, named := ["math/bits.deBruijn32tab", "math/bits.deBruijn64tab"], apart := false, laid := [("math/bits.deBruijn32tab", laid_math_bits_deBruijn32tab), ("math/bits.deBruijn64tab", laid_math_bits_deBruijn64tab)] }
def FnExactPointBytesSaid : Prop := fnExactPointBytesRow.holds Tryd.pinned (OpenSpec.ofChange fnExactPointBytesSpec)

/-- ITS FALSE NEIGHBOUR: 'it returns false'. Refute it at one input. -/
def fnExactPointBytesWrong : ChangeSpec := { name := "fnExactPointBytes", fn := fun _ => fun
  | [d1, d2, d3] => { results := [.lit (.bool false)], args := [d1, d2, d3] }
  | _ => none }
def FnExactPointBytesWrongFalsely : Prop := fnExactPointBytesRow.holds Tryd.pinned (OpenSpec.ofChange fnExactPointBytesWrong)

/-- 'laws.FnExactPointRead': WHATEVER THE INPUT: true; the input reads as it did. -/
def fnExactPointReadSpec : ChangeSpec := { name := "fnExactPointRead", fn := fun _ => fun
  | [d1, d2] => { results := [.lit (.bool true)], args := [d1, d2] }
  | _ => none }
def fnExactPointReadRow : OpenClaim := { program := "ytcfpmillbdkpcaadoor", sum := "a994d18c50916bc8220d4a6be5744b28149cecf73f2419bb270497bbdfec5127", func := "loop.example/g00148/laws.FnExactPointRead", spec := "fnExactPointRead", unfollowed := true, recurses := true, named := ["math/bits.deBruijn32tab", "math/bits.deBruijn64tab"], apart := false, laid := [("math/bits.deBruijn32tab", laid_math_bits_deBruijn32tab), ("math/bits.deBruijn64tab", laid_math_bits_deBruijn64tab)] }
def FnExactPointReadSaid : Prop := fnExactPointReadRow.holds Tryd.pinned (OpenSpec.ofChange fnExactPointReadSpec)

/-- ITS FALSE NEIGHBOUR: 'it returns false'. Refute it at one input. -/
def fnExactPointReadWrong : ChangeSpec := { name := "fnExactPointRead", fn := fun _ => fun
  | [d1, d2] => { results := [.lit (.bool false)], args := [d1, d2] }
  | _ => none }
def FnExactPointReadWrongFalsely : Prop := fnExactPointReadRow.holds Tryd.pinned (OpenSpec.ofChange fnExactPointReadWrong)

/-- 'laws.FnExactEdBytes': WHATEVER THE INPUT: true; the input reads as it did. -/
def fnExactEdBytesSpec : ChangeSpec := { name := "fnExactEdBytes", fn := fun _ => fun
  | [d1, d2] => { results := [.lit (.bool true)], args := [d1, d2] }
  | _ => none }
def fnExactEdBytesRow : OpenClaim := { program := "ytcfpmillbdkpcaadoor", sum := "a994d18c50916bc8220d4a6be5744b28149cecf73f2419bb270497bbdfec5127", func := "loop.example/g00148/laws.FnExactEdBytes", spec := "fnExactEdBytes", unfollowed := true, recurses := true, named := ["math/bits.deBruijn32tab", "math/bits.deBruijn64tab"], apart := false, laid := [("math/bits.deBruijn32tab", laid_math_bits_deBruijn32tab), ("math/bits.deBruijn64tab", laid_math_bits_deBruijn64tab)] }
def FnExactEdBytesSaid : Prop := fnExactEdBytesRow.holds Tryd.pinned (OpenSpec.ofChange fnExactEdBytesSpec)

/-- ITS FALSE NEIGHBOUR: 'it returns false'. Refute it at one input. -/
def fnExactEdBytesWrong : ChangeSpec := { name := "fnExactEdBytes", fn := fun _ => fun
  | [d1, d2] => { results := [.lit (.bool false)], args := [d1, d2] }
  | _ => none }
def FnExactEdBytesWrongFalsely : Prop := fnExactEdBytesRow.holds Tryd.pinned (OpenSpec.ofChange fnExactEdBytesWrong)

/-- 'laws.FnExactEdRead': WHATEVER THE INPUT: true; the input reads as it did. -/
def fnExactEdReadSpec : ChangeSpec := { name := "fnExactEdRead", fn := fun _ => fun
  | [d1, d2] => { results := [.lit (.bool true)], args := [d1, d2] }
  | _ => none }
def fnExactEdReadRow : OpenClaim := { program := "ytcfpmillbdkpcaadoor", sum := "a994d18c50916bc8220d4a6be5744b28149cecf73f2419bb270497bbdfec5127", func := "loop.example/g00148/laws.FnExactEdRead", spec := "fnExactEdRead", unfollowed := true, recurses := true, named := ["math/bits.deBruijn32tab", "math/bits.deBruijn64tab"], apart := false, laid := [("math/bits.deBruijn32tab", laid_math_bits_deBruijn32tab), ("math/bits.deBruijn64tab", laid_math_bits_deBruijn64tab)] }
def FnExactEdReadSaid : Prop := fnExactEdReadRow.holds Tryd.pinned (OpenSpec.ofChange fnExactEdReadSpec)

/-- ITS FALSE NEIGHBOUR: 'it returns false'. Refute it at one input. -/
def fnExactEdReadWrong : ChangeSpec := { name := "fnExactEdRead", fn := fun _ => fun
  | [d1, d2] => { results := [.lit (.bool false)], args := [d1, d2] }
  | _ => none }
def FnExactEdReadWrongFalsely : Prop := fnExactEdReadRow.holds Tryd.pinned (OpenSpec.ofChange fnExactEdReadWrong)

/- THE SECOND FORM. 'bulk': how many values and letters a reading holds, each counted each time it is reached (what is shared counts as often as it is met; a slice's spare places count too). A statement '..UptoSaid' is the law's where the arguments, and the package variables that the reading takes, are together of bulk at most 1048576: NARROWER than '..Said'. Prove '..Said' where nothing that the law and all that it calls make is longer than what came in: it says more and counts as full. Else prove '..UptoSaid'. A law counts once. -/
mutual
def uptoBulk {H : Type} : DataW H → Nat
  | .lit (.string bytes) => bytes.length + 1
  | .lit _ => 1
  | .nil => 1
  | .ptr d => uptoBulk d + 1
  | .slice elems spare => uptoBulkAll elems + uptoBulkAll spare + 1
  | .agg parts => uptoBulkAll parts + 1
  | .iface _ d => uptoBulk d + 1
  | .map entries => uptoBulkEntries entries + 1
  | .held _ => 1
def uptoBulkAll {H : Type} : List (DataW H) → Nat
  | [] => 0
  | d :: r => uptoBulk d + uptoBulkAll r
def uptoBulkEntries {H : Type} : List (Lit × DataW H) → Nat
  | [] => 0
  | x :: r => uptoBulkEntry x + uptoBulkEntries r
def uptoBulkEntry {H : Type} : Lit × DataW H → Nat
  | (.string bytes, d) => bytes.length + uptoBulk d + 1
  | (_, d) => uptoBulk d + 1
 end
def uptoSmall : (H : Type) → List (DataW H) → Bool := fun _ ds => decide (uptoBulkAll ds ≤ 1048576)
def OpenSpec.upto (s : _root_.Go.ChangeSpec) : _root_.Go.OpenSpec := { _root_.Go.OpenSpec.ofChange s with cond := some uptoSmall }

/-- 'laws.FnPointsBack', WHERE WHAT IT READS IS OF BULK AT MOST 1048576: true; the input reads as it did. -/
def fnPointsBackUptoRow : OpenClaim := { program := "ytcfpmillbdkpcaadoor", sum := "a994d18c50916bc8220d4a6be5744b28149cecf73f2419bb270497bbdfec5127", func := "loop.example/g00148/laws.FnPointsBack", spec := "fnPointsBack", unfollowed := true, recurses := true, named := ["math/bits.deBruijn32tab", "math/bits.deBruijn64tab"], apart := false, laid := [("math/bits.deBruijn32tab", laid_math_bits_deBruijn32tab), ("math/bits.deBruijn64tab", laid_math_bits_deBruijn64tab)], narrowed := true }
def FnPointsBackUptoSaid : Prop := fnPointsBackUptoRow.holds Tryd.pinned (OpenSpec.upto fnPointsBackSpec)

/-- 'laws.FnTwisted', WHERE WHAT IT READS IS OF BULK AT MOST 1048576: true; the input reads as it did. -/
def fnTwistedUptoRow : OpenClaim := { program := "ytcfpmillbdkpcaadoor", sum := "a994d18c50916bc8220d4a6be5744b28149cecf73f2419bb270497bbdfec5127", func := "loop.example/g00148/laws.FnTwisted", spec := "fnTwisted", unfollowed := true, recurses := true, named := ["math/bits.deBruijn32tab", "math/bits.deBruijn64tab"], apart := false, laid := [("math/bits.deBruijn32tab", laid_math_bits_deBruijn32tab), ("math/bits.deBruijn64tab", laid_math_bits_deBruijn64tab)], narrowed := true }
def FnTwistedUptoSaid : Prop := fnTwistedUptoRow.holds Tryd.pinned (OpenSpec.upto fnTwistedSpec)

/-- 'laws.FnExactPointBytes', WHERE WHAT IT READS IS OF BULK AT MOST 1048576: true; the input reads as it did. -/
def fnExactPointBytesUptoRow : OpenClaim := { program := "ytcfpmillbdkpcaadoor", sum := "a994d18c50916bc8220d4a6be5744b28149cecf73f2419bb270497bbdfec5127", func := "loop.example/g00148/laws.FnExactPointBytes", spec := "fnExactPointBytes", unfollowed := true, recurses := true, named := ["math/bits.deBruijn32tab", "math/bits.deBruijn64tab"], apart := false, laid := [("math/bits.deBruijn32tab", laid_math_bits_deBruijn32tab), ("math/bits.deBruijn64tab", laid_math_bits_deBruijn64tab)], narrowed := true }
def FnExactPointBytesUptoSaid : Prop := fnExactPointBytesUptoRow.holds Tryd.pinned (OpenSpec.upto fnExactPointBytesSpec)

/-- 'laws.FnExactPointRead', WHERE WHAT IT READS IS OF BULK AT MOST 1048576: true; the input reads as it did. -/
def fnExactPointReadUptoRow : OpenClaim := { program := "ytcfpmillbdkpcaadoor", sum := "a994d18c50916bc8220d4a6be5744b28149cecf73f2419bb270497bbdfec5127", func := "loop.example/g00148/laws.FnExactPointRead", spec := "fnExactPointRead", unfollowed := true, recurses := true, named := ["math/bits.deBruijn32tab", "math/bits.deBruijn64tab"], apart := false, laid := [("math/bits.deBruijn32tab", laid_math_bits_deBruijn32tab), ("math/bits.deBruijn64tab", laid_math_bits_deBruijn64tab)], narrowed := true }
def FnExactPointReadUptoSaid : Prop := fnExactPointReadUptoRow.holds Tryd.pinned (OpenSpec.upto fnExactPointReadSpec)

/-- 'laws.FnExactEdBytes', WHERE WHAT IT READS IS OF BULK AT MOST 1048576: true; the input reads as it did. -/
def fnExactEdBytesUptoRow : OpenClaim := { program := "ytcfpmillbdkpcaadoor", sum := "a994d18c50916bc8220d4a6be5744b28149cecf73f2419bb270497bbdfec5127", func := "loop.example/g00148/laws.FnExactEdBytes", spec := "fnExactEdBytes", unfollowed := true, recurses := true, named := ["math/bits.deBruijn32tab", "math/bits.deBruijn64tab"], apart := false, laid := [("math/bits.deBruijn32tab", laid_math_bits_deBruijn32tab), ("math/bits.deBruijn64tab", laid_math_bits_deBruijn64tab)], narrowed := true }
def FnExactEdBytesUptoSaid : Prop := fnExactEdBytesUptoRow.holds Tryd.pinned (OpenSpec.upto fnExactEdBytesSpec)

/-- 'laws.FnExactEdRead', WHERE WHAT IT READS IS OF BULK AT MOST 1048576: true; the input reads as it did. -/
def fnExactEdReadUptoRow : OpenClaim := { program := "ytcfpmillbdkpcaadoor", sum := "a994d18c50916bc8220d4a6be5744b28149cecf73f2419bb270497bbdfec5127", func := "loop.example/g00148/laws.FnExactEdRead", spec := "fnExactEdRead", unfollowed := true, recurses := true, named := ["math/bits.deBruijn32tab", "math/bits.deBruijn64tab"], apart := false, laid := [("math/bits.deBruijn32tab", laid_math_bits_deBruijn32tab), ("math/bits.deBruijn64tab", laid_math_bits_deBruijn64tab)], narrowed := true }
def FnExactEdReadUptoSaid : Prop := fnExactEdReadUptoRow.holds Tryd.pinned (OpenSpec.upto fnExactEdReadSpec)

end Rows
end Go.Proofs.YtcfpmillbdkpcaaDoor
