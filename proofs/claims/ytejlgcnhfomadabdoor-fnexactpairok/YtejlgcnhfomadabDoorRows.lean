/-
  NARROWER THAN 'FOR EVERY INPUT', by the rows' own cells (each row's printed sentence says how): FnExactPointMul: laid · FnExactTwoMul: laid · FnExactPointBytes: laid · FnExactPointRead: laid · FnExactEdOk: laid · FnExactPairOk: laid.
  DERIVED. THE GIVEN ROWS OF THIS SEAT. 6 by the template 'for every input the law returns true; each argument reads behind the call as it read before'; 0 by the template 'total and deterministic' (their statements: YtejlgcnhfomadabDoorTotals.lean).
  GIVEN WITH THE SEED: the statements are not yours to turn. If you find one false, say at which input.
  Laid BY PROGRAM, IN A SANDBOX (cutbox-rows.mjs): the forced cells as the released guide's own fill.sh prints them over the translation 3e32bf68825d72a4… (all of the seat's roots in one cut). By AI agents, Wed Nov 11 2026. No macro, syntax, notation, axiom, sorry.
-/
import Derived.Test.YtejlgcnhfomadabDoorChecked
import GoSem.Claim
import GoSem.ClaimJoined
import GoSem.ClaimMapViews
import Derived.JoinedTies
import Derived.KernelRfl
namespace Go.Proofs.YtejlgcnhfomadabDoor
/- THE CELL 'sum', in the pinned program and in every row, IS THE sha256 OF THE DUMP (.gsa) THAT YtejlgcnhfomadabDoorProg.lean LOADS. Nothing in Lean hashes anything: it is a label: what it is worth is what the hold of that sum in a sandbox is worth. -/
noncomputable def Tryd.pinned : Pinned := { name := "ytejlgcnhfomadabdoor", sum := "3e32bf68825d72a4ac01a20785f93821e6aae868a3f1a14c11ab56dae866d286", checked := Tryd.checked }
namespace Rows
def none {H : Type} : Left H := { results := [], args := [] }

/- WHAT THE LISTED PACKAGE-LEVEL VARIABLES READ AS WHEN THE CALL BEGINS. Each datum BY PROGRAM (the guide's laid-datum.mjs) off the statement by which the dump's own 'gosem.cut.vars' lays the variable. In a bare row this is a premise. The card (YtejlgcnhfomadabDoorCards.lean) ties it to the program's text. -/
def laid_math_bits_deBruijn32tab {H : Type} : DataW H := .agg [.lit (.int .u8 0), .lit (.int .u8 1), .lit (.int .u8 28), .lit (.int .u8 2), .lit (.int .u8 29), .lit (.int .u8 14), .lit (.int .u8 24), .lit (.int .u8 3), .lit (.int .u8 30), .lit (.int .u8 22), .lit (.int .u8 20), .lit (.int .u8 15), .lit (.int .u8 25), .lit (.int .u8 17), .lit (.int .u8 4), .lit (.int .u8 8), .lit (.int .u8 31), .lit (.int .u8 27), .lit (.int .u8 13), .lit (.int .u8 23), .lit (.int .u8 21), .lit (.int .u8 19), .lit (.int .u8 16), .lit (.int .u8 7), .lit (.int .u8 26), .lit (.int .u8 12), .lit (.int .u8 18), .lit (.int .u8 6), .lit (.int .u8 11), .lit (.int .u8 5), .lit (.int .u8 10), .lit (.int .u8 9)]
def laid_math_bits_deBruijn64tab {H : Type} : DataW H := .agg [.lit (.int .u8 0), .lit (.int .u8 1), .lit (.int .u8 56), .lit (.int .u8 2), .lit (.int .u8 57), .lit (.int .u8 49), .lit (.int .u8 28), .lit (.int .u8 3), .lit (.int .u8 61), .lit (.int .u8 58), .lit (.int .u8 42), .lit (.int .u8 50), .lit (.int .u8 38), .lit (.int .u8 29), .lit (.int .u8 17), .lit (.int .u8 4), .lit (.int .u8 62), .lit (.int .u8 47), .lit (.int .u8 59), .lit (.int .u8 36), .lit (.int .u8 45), .lit (.int .u8 43), .lit (.int .u8 51), .lit (.int .u8 22), .lit (.int .u8 53), .lit (.int .u8 39), .lit (.int .u8 33), .lit (.int .u8 30), .lit (.int .u8 24), .lit (.int .u8 18), .lit (.int .u8 12), .lit (.int .u8 5), .lit (.int .u8 63), .lit (.int .u8 55), .lit (.int .u8 48), .lit (.int .u8 27), .lit (.int .u8 60), .lit (.int .u8 41), .lit (.int .u8 37), .lit (.int .u8 16), .lit (.int .u8 46), .lit (.int .u8 35), .lit (.int .u8 44), .lit (.int .u8 21), .lit (.int .u8 52), .lit (.int .u8 32), .lit (.int .u8 23), .lit (.int .u8 11), .lit (.int .u8 54), .lit (.int .u8 26), .lit (.int .u8 40), .lit (.int .u8 15), .lit (.int .u8 34), .lit (.int .u8 20), .lit (.int .u8 31), .lit (.int .u8 10), .lit (.int .u8 25), .lit (.int .u8 14), .lit (.int .u8 19), .lit (.int .u8 9), .lit (.int .u8 13), .lit (.int .u8 8), .lit (.int .u8 7), .lit (.int .u8 6)]

/-- 'laws.FnExactPointMul': WHATEVER THE INPUT: true; the input reads as it did. -/
def fnExactPointMulSpec : ChangeSpec := { name := "fnExactPointMul", fn := fun _ => fun
  | [d1, d2, d3] => { results := [.lit (.bool true)], args := [d1, d2, d3] }
  | _ => none }
def fnExactPointMulRow : OpenClaim := { program := "ytejlgcnhfomadabdoor", sum := "3e32bf68825d72a4ac01a20785f93821e6aae868a3f1a14c11ab56dae866d286", func := "loop.example/g00148/laws.FnExactPointMul", spec := "fnExactPointMul", unfollowed := true, recurses := true, named := ["math/bits.deBruijn32tab", "math/bits.deBruijn64tab"], apart := false, laid := [("math/bits.deBruijn32tab", laid_math_bits_deBruijn32tab), ("math/bits.deBruijn64tab", laid_math_bits_deBruijn64tab)] }
def FnExactPointMulSaid : Prop := fnExactPointMulRow.holds Tryd.pinned (OpenSpec.ofChange fnExactPointMulSpec)

/-- ITS FALSE NEIGHBOUR: 'it returns false'. Refute it at one input. -/
def fnExactPointMulWrong : ChangeSpec := { name := "fnExactPointMul", fn := fun _ => fun
  | [d1, d2, d3] => { results := [.lit (.bool false)], args := [d1, d2, d3] }
  | _ => none }
def FnExactPointMulWrongFalsely : Prop := fnExactPointMulRow.holds Tryd.pinned (OpenSpec.ofChange fnExactPointMulWrong)

/-- 'laws.FnExactTwoMul': WHATEVER THE INPUT: true; the input reads as it did. -/
def fnExactTwoMulSpec : ChangeSpec := { name := "fnExactTwoMul", fn := fun _ => fun
  | [d1, d2, d3, d4] => { results := [.lit (.bool true)], args := [d1, d2, d3, d4] }
  | _ => none }
def fnExactTwoMulRow : OpenClaim := { program := "ytejlgcnhfomadabdoor", sum := "3e32bf68825d72a4ac01a20785f93821e6aae868a3f1a14c11ab56dae866d286", func := "loop.example/g00148/laws.FnExactTwoMul", spec := "fnExactTwoMul", unfollowed := true, recurses := true, named := ["math/bits.deBruijn32tab", "math/bits.deBruijn64tab"], apart := false, laid := [("math/bits.deBruijn32tab", laid_math_bits_deBruijn32tab), ("math/bits.deBruijn64tab", laid_math_bits_deBruijn64tab)] }
def FnExactTwoMulSaid : Prop := fnExactTwoMulRow.holds Tryd.pinned (OpenSpec.ofChange fnExactTwoMulSpec)

/-- ITS FALSE NEIGHBOUR: 'it returns false'. Refute it at one input. -/
def fnExactTwoMulWrong : ChangeSpec := { name := "fnExactTwoMul", fn := fun _ => fun
  | [d1, d2, d3, d4] => { results := [.lit (.bool false)], args := [d1, d2, d3, d4] }
  | _ => none }
def FnExactTwoMulWrongFalsely : Prop := fnExactTwoMulRow.holds Tryd.pinned (OpenSpec.ofChange fnExactTwoMulWrong)

/-- 'laws.FnExactPointBytes': WHATEVER THE INPUT: true; the input reads as it did. -/
def fnExactPointBytesSpec : ChangeSpec := { name := "fnExactPointBytes", fn := fun _ => fun
  | [d1, d2, d3] => { results := [.lit (.bool true)], args := [d1, d2, d3] }
  | _ => none }
def fnExactPointBytesRow : OpenClaim := { program := "ytejlgcnhfomadabdoor", sum := "3e32bf68825d72a4ac01a20785f93821e6aae868a3f1a14c11ab56dae866d286", func := "loop.example/g00148/laws.FnExactPointBytes", spec := "fnExactPointBytes", unfollowed := true, recurses := true, named := ["math/bits.deBruijn32tab", "math/bits.deBruijn64tab"], apart := false, laid := [("math/bits.deBruijn32tab", laid_math_bits_deBruijn32tab), ("math/bits.deBruijn64tab", laid_math_bits_deBruijn64tab)] }
def FnExactPointBytesSaid : Prop := fnExactPointBytesRow.holds Tryd.pinned (OpenSpec.ofChange fnExactPointBytesSpec)

/-- ITS FALSE NEIGHBOUR: 'it returns false'. Refute it at one input. -/
def fnExactPointBytesWrong : ChangeSpec := { name := "fnExactPointBytes", fn := fun _ => fun
  | [d1, d2, d3] => { results := [.lit (.bool false)], args := [d1, d2, d3] }
  | _ => none }
def FnExactPointBytesWrongFalsely : Prop := fnExactPointBytesRow.holds Tryd.pinned (OpenSpec.ofChange fnExactPointBytesWrong)

/-- 'laws.FnExactPointRead': WHATEVER THE INPUT: true; the input reads as it did. -/
def fnExactPointReadSpec : ChangeSpec := { name := "fnExactPointRead", fn := fun _ => fun
  | [d1, d2] => { results := [.lit (.bool true)], args := [d1, d2] }
  | _ => none }
def fnExactPointReadRow : OpenClaim := { program := "ytejlgcnhfomadabdoor", sum := "3e32bf68825d72a4ac01a20785f93821e6aae868a3f1a14c11ab56dae866d286", func := "loop.example/g00148/laws.FnExactPointRead", spec := "fnExactPointRead", unfollowed := true, recurses := true, named := ["math/bits.deBruijn32tab", "math/bits.deBruijn64tab"], apart := false, laid := [("math/bits.deBruijn32tab", laid_math_bits_deBruijn32tab), ("math/bits.deBruijn64tab", laid_math_bits_deBruijn64tab)] }
def FnExactPointReadSaid : Prop := fnExactPointReadRow.holds Tryd.pinned (OpenSpec.ofChange fnExactPointReadSpec)

/-- ITS FALSE NEIGHBOUR: 'it returns false'. Refute it at one input. -/
def fnExactPointReadWrong : ChangeSpec := { name := "fnExactPointRead", fn := fun _ => fun
  | [d1, d2] => { results := [.lit (.bool false)], args := [d1, d2] }
  | _ => none }
def FnExactPointReadWrongFalsely : Prop := fnExactPointReadRow.holds Tryd.pinned (OpenSpec.ofChange fnExactPointReadWrong)

/-- 'laws.FnExactEdOk': WHATEVER THE INPUT: true; the input reads as it did. -/
def fnExactEdOkSpec : ChangeSpec := { name := "fnExactEdOk", fn := fun _ => fun
  | [d] => { results := [.lit (.bool true)], args := [d] }
  | _ => none }
def fnExactEdOkRow : OpenClaim := { program := "ytejlgcnhfomadabdoor", sum := "3e32bf68825d72a4ac01a20785f93821e6aae868a3f1a14c11ab56dae866d286", func := "loop.example/g00148/laws.FnExactEdOk", spec := "fnExactEdOk", unfollowed := true, recurses := true, named := ["math/bits.deBruijn32tab", "math/bits.deBruijn64tab"], apart := false, laid := [("math/bits.deBruijn32tab", laid_math_bits_deBruijn32tab), ("math/bits.deBruijn64tab", laid_math_bits_deBruijn64tab)] }
def FnExactEdOkSaid : Prop := fnExactEdOkRow.holds Tryd.pinned (OpenSpec.ofChange fnExactEdOkSpec)

/-- ITS FALSE NEIGHBOUR: 'it returns false'. Refute it at one input. -/
def fnExactEdOkWrong : ChangeSpec := { name := "fnExactEdOk", fn := fun _ => fun
  | [d] => { results := [.lit (.bool false)], args := [d] }
  | _ => none }
def FnExactEdOkWrongFalsely : Prop := fnExactEdOkRow.holds Tryd.pinned (OpenSpec.ofChange fnExactEdOkWrong)

/-- 'laws.FnExactPairOk': WHATEVER THE INPUT: true; the input reads as it did. -/
def fnExactPairOkSpec : ChangeSpec := { name := "fnExactPairOk", fn := fun _ => fun
  | [d1, d2] => { results := [.lit (.bool true)], args := [d1, d2] }
  | _ => none }
def fnExactPairOkRow : OpenClaim := { program := "ytejlgcnhfomadabdoor", sum := "3e32bf68825d72a4ac01a20785f93821e6aae868a3f1a14c11ab56dae866d286", func := "loop.example/g00148/laws.FnExactPairOk", spec := "fnExactPairOk", unfollowed := true, recurses := true, named := ["math/bits.deBruijn32tab", "math/bits.deBruijn64tab"], apart := false, laid := [("math/bits.deBruijn32tab", laid_math_bits_deBruijn32tab), ("math/bits.deBruijn64tab", laid_math_bits_deBruijn64tab)] }
def FnExactPairOkSaid : Prop := fnExactPairOkRow.holds Tryd.pinned (OpenSpec.ofChange fnExactPairOkSpec)

/-- ITS FALSE NEIGHBOUR: 'it returns false'. Refute it at one input. -/
def fnExactPairOkWrong : ChangeSpec := { name := "fnExactPairOk", fn := fun _ => fun
  | [d1, d2] => { results := [.lit (.bool false)], args := [d1, d2] }
  | _ => none }
def FnExactPairOkWrongFalsely : Prop := fnExactPairOkRow.holds Tryd.pinned (OpenSpec.ofChange fnExactPairOkWrong)

/- THE SECOND FORM. 'bulk': how many values and letters a reading holds, each counted each time it is reached (what is shared counts as often as it is met; a slice's spare places count too). A statement '..UptoSaid' is the law's where the arguments, and the package variables that the reading takes, are together of bulk at most 1048576: NARROWER than '..Said'. Prove '..Said' where nothing that the law and all that it calls make is longer than what came in: it says more and counts as full. Else prove '..UptoSaid'. A law counts once. -/
mutual
def uptoBulk {H : Type} : DataW H → Nat
  | .lit (.string bytes) => bytes.length + 1
  | .lit _ => 1
  | .nil => 1
  | .ptr d => uptoBulk d + 1
  | .slice elems spare => uptoBulkAll elems + uptoBulkAll spare + 1
  | .agg parts => uptoBulkAll parts + 1
  | .iface _ d => uptoBulk d + 1
  | .map entries => uptoBulkEntries entries + 1
  | .held _ => 1
def uptoBulkAll {H : Type} : List (DataW H) → Nat
  | [] => 0
  | d :: r => uptoBulk d + uptoBulkAll r
def uptoBulkEntries {H : Type} : List (Lit × DataW H) → Nat
  | [] => 0
  | x :: r => uptoBulkEntry x + uptoBulkEntries r
def uptoBulkEntry {H : Type} : Lit × DataW H → Nat
  | (.string bytes, d) => bytes.length + uptoBulk d + 1
  | (_, d) => uptoBulk d + 1
 end
def uptoSmall : (H : Type) → List (DataW H) → Bool := fun _ ds => decide (uptoBulkAll ds ≤ 1048576)
def OpenSpec.upto (s : _root_.Go.ChangeSpec) : _root_.Go.OpenSpec := { _root_.Go.OpenSpec.ofChange s with cond := some uptoSmall }

/-- 'laws.FnExactPointMul', WHERE WHAT IT READS IS OF BULK AT MOST 1048576: true; the input reads as it did. -/
def fnExactPointMulUptoRow : OpenClaim := { program := "ytejlgcnhfomadabdoor", sum := "3e32bf68825d72a4ac01a20785f93821e6aae868a3f1a14c11ab56dae866d286", func := "loop.example/g00148/laws.FnExactPointMul", spec := "fnExactPointMul", unfollowed := true, recurses := true, named := ["math/bits.deBruijn32tab", "math/bits.deBruijn64tab"], apart := false, laid := [("math/bits.deBruijn32tab", laid_math_bits_deBruijn32tab), ("math/bits.deBruijn64tab", laid_math_bits_deBruijn64tab)], narrowed := true }
def FnExactPointMulUptoSaid : Prop := fnExactPointMulUptoRow.holds Tryd.pinned (OpenSpec.upto fnExactPointMulSpec)

/-- 'laws.FnExactTwoMul', WHERE WHAT IT READS IS OF BULK AT MOST 1048576: true; the input reads as it did. -/
def fnExactTwoMulUptoRow : OpenClaim := { program := "ytejlgcnhfomadabdoor", sum := "3e32bf68825d72a4ac01a20785f93821e6aae868a3f1a14c11ab56dae866d286", func := "loop.example/g00148/laws.FnExactTwoMul", spec := "fnExactTwoMul", unfollowed := true, recurses := true, named := ["math/bits.deBruijn32tab", "math/bits.deBruijn64tab"], apart := false, laid := [("math/bits.deBruijn32tab", laid_math_bits_deBruijn32tab), ("math/bits.deBruijn64tab", laid_math_bits_deBruijn64tab)], narrowed := true }
def FnExactTwoMulUptoSaid : Prop := fnExactTwoMulUptoRow.holds Tryd.pinned (OpenSpec.upto fnExactTwoMulSpec)

/-- 'laws.FnExactPointBytes', WHERE WHAT IT READS IS OF BULK AT MOST 1048576: true; the input reads as it did. -/
def fnExactPointBytesUptoRow : OpenClaim := { program := "ytejlgcnhfomadabdoor", sum := "3e32bf68825d72a4ac01a20785f93821e6aae868a3f1a14c11ab56dae866d286", func := "loop.example/g00148/laws.FnExactPointBytes", spec := "fnExactPointBytes", unfollowed := true, recurses := true, named := ["math/bits.deBruijn32tab", "math/bits.deBruijn64tab"], apart := false, laid := [("math/bits.deBruijn32tab", laid_math_bits_deBruijn32tab), ("math/bits.deBruijn64tab", laid_math_bits_deBruijn64tab)], narrowed := true }
def FnExactPointBytesUptoSaid : Prop := fnExactPointBytesUptoRow.holds Tryd.pinned (OpenSpec.upto fnExactPointBytesSpec)

/-- 'laws.FnExactPointRead', WHERE WHAT IT READS IS OF BULK AT MOST 1048576: true; the input reads as it did. -/
def fnExactPointReadUptoRow : OpenClaim := { program := "ytejlgcnhfomadabdoor", sum := "3e32bf68825d72a4ac01a20785f93821e6aae868a3f1a14c11ab56dae866d286", func := "loop.example/g00148/laws.FnExactPointRead", spec := "fnExactPointRead", unfollowed := true, recurses := true, named := ["math/bits.deBruijn32tab", "math/bits.deBruijn64tab"], apart := false, laid := [("math/bits.deBruijn32tab", laid_math_bits_deBruijn32tab), ("math/bits.deBruijn64tab", laid_math_bits_deBruijn64tab)], narrowed := true }
def FnExactPointReadUptoSaid : Prop := fnExactPointReadUptoRow.holds Tryd.pinned (OpenSpec.upto fnExactPointReadSpec)

/-- 'laws.FnExactEdOk', WHERE WHAT IT READS IS OF BULK AT MOST 1048576: true; the input reads as it did. -/
def fnExactEdOkUptoRow : OpenClaim := { program := "ytejlgcnhfomadabdoor", sum := "3e32bf68825d72a4ac01a20785f93821e6aae868a3f1a14c11ab56dae866d286", func := "loop.example/g00148/laws.FnExactEdOk", spec := "fnExactEdOk", unfollowed := true, recurses := true, named := ["math/bits.deBruijn32tab", "math/bits.deBruijn64tab"], apart := false, laid := [("math/bits.deBruijn32tab", laid_math_bits_deBruijn32tab), ("math/bits.deBruijn64tab", laid_math_bits_deBruijn64tab)], narrowed := true }
def FnExactEdOkUptoSaid : Prop := fnExactEdOkUptoRow.holds Tryd.pinned (OpenSpec.upto fnExactEdOkSpec)

/-- 'laws.FnExactPairOk', WHERE WHAT IT READS IS OF BULK AT MOST 1048576: true; the input reads as it did. -/
def fnExactPairOkUptoRow : OpenClaim := { program := "ytejlgcnhfomadabdoor", sum := "3e32bf68825d72a4ac01a20785f93821e6aae868a3f1a14c11ab56dae866d286", func := "loop.example/g00148/laws.FnExactPairOk", spec := "fnExactPairOk", unfollowed := true, recurses := true, named := ["math/bits.deBruijn32tab", "math/bits.deBruijn64tab"], apart := false, laid := [("math/bits.deBruijn32tab", laid_math_bits_deBruijn32tab), ("math/bits.deBruijn64tab", laid_math_bits_deBruijn64tab)], narrowed := true }
def FnExactPairOkUptoSaid : Prop := fnExactPairOkUptoRow.holds Tryd.pinned (OpenSpec.upto fnExactPairOkSpec)

end Rows
end Go.Proofs.YtejlgcnhfomadabDoor
