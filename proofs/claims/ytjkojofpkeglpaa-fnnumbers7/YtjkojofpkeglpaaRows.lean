/-
  No cell of these rows narrows 'for every input' (looked for: loops, veiled, ifaces, maps, wideKeys, modest, calm, conditions, laid).
  DERIVED. THE GIVEN ROWS OF THIS SEAT. 6 by the template 'for every input the law returns true; each argument reads behind the call as it read before'; 0 by the template 'total and deterministic' (their statements: YtjkojofpkeglpaaTotals.lean).
  GIVEN WITH THE SEED: the statements are not yours to turn. If you find one false, say at which input.
  Laid BY PROGRAM, IN A SANDBOX (cutbox-rows.mjs): the forced cells as the released guide's own fill.sh prints them over the translation 327864ce904a1dab… (all of the seat's roots in one cut). By AI agents, Wed Nov 11 2026. No macro, syntax, notation, axiom, sorry.
-/
import Derived.Test.YtjkojofpkeglpaaChecked
import GoSem.Claim
import GoSem.ClaimJoined
import GoSem.ClaimMapViews
import Derived.JoinedTies
import Derived.KernelRfl
namespace Go.Proofs.Ytjkojofpkeglpaa
/- THE CELL 'sum', in the pinned program and in every row, IS THE sha256 OF THE DUMP (.gsa) THAT YtjkojofpkeglpaaProg.lean LOADS. Nothing in Lean hashes anything: it is a label: what it is worth is what the hold of that sum in a sandbox is worth. -/
noncomputable def Try.pinned : Pinned := { name := "ytjkojofpkeglpaa", sum := "327864ce904a1dab421284a3d2392b86e714038c55f1b57de95acf57ee27feb6", checked := Try.checked }
namespace Rows
def none {H : Type} : Left H := { results := [], args := [] }

/-- 'laws.FnExactIntBytes': WHATEVER THE INPUT: true; the input reads as it did. -/
def fnExactIntBytesSpec : ChangeSpec := { name := "fnExactIntBytes", fn := fun _ => fun
  | [d] => { results := [.lit (.bool true)], args := [d] }
  | _ => none }
def fnExactIntBytesRow : OpenClaim := { program := "ytjkojofpkeglpaa", sum := "327864ce904a1dab421284a3d2392b86e714038c55f1b57de95acf57ee27feb6", func := "loop.example/g00148/laws.FnExactIntBytes", spec := "fnExactIntBytes", apart := false }
def FnExactIntBytesSaid : Prop := fnExactIntBytesRow.holds Try.pinned (OpenSpec.ofChange fnExactIntBytesSpec)

/-- ITS FALSE NEIGHBOUR: 'it returns false'. Refute it at one input. -/
def fnExactIntBytesWrong : ChangeSpec := { name := "fnExactIntBytes", fn := fun _ => fun
  | [d] => { results := [.lit (.bool false)], args := [d] }
  | _ => none }
def FnExactIntBytesWrongFalsely : Prop := fnExactIntBytesRow.holds Try.pinned (OpenSpec.ofChange fnExactIntBytesWrong)

/-- 'laws.FnExactReadIntBytes': WHATEVER THE INPUT: true; the input reads as it did. -/
def fnExactReadIntBytesSpec : ChangeSpec := { name := "fnExactReadIntBytes", fn := fun _ => fun
  | [d] => { results := [.lit (.bool true)], args := [d] }
  | _ => none }
def fnExactReadIntBytesRow : OpenClaim := { program := "ytjkojofpkeglpaa", sum := "327864ce904a1dab421284a3d2392b86e714038c55f1b57de95acf57ee27feb6", func := "loop.example/g00148/laws.FnExactReadIntBytes", spec := "fnExactReadIntBytes", apart := false }
def FnExactReadIntBytesSaid : Prop := fnExactReadIntBytesRow.holds Try.pinned (OpenSpec.ofChange fnExactReadIntBytesSpec)

/-- ITS FALSE NEIGHBOUR: 'it returns false'. Refute it at one input. -/
def fnExactReadIntBytesWrong : ChangeSpec := { name := "fnExactReadIntBytes", fn := fun _ => fun
  | [d] => { results := [.lit (.bool false)], args := [d] }
  | _ => none }
def FnExactReadIntBytesWrongFalsely : Prop := fnExactReadIntBytesRow.holds Try.pinned (OpenSpec.ofChange fnExactReadIntBytesWrong)

/-- 'laws.FnExactOidBytes': WHATEVER THE INPUT: true; the input reads as it did. -/
def fnExactOidBytesSpec : ChangeSpec := { name := "fnExactOidBytes", fn := fun _ => fun
  | [d] => { results := [.lit (.bool true)], args := [d] }
  | _ => none }
def fnExactOidBytesRow : OpenClaim := { program := "ytjkojofpkeglpaa", sum := "327864ce904a1dab421284a3d2392b86e714038c55f1b57de95acf57ee27feb6", func := "loop.example/g00148/laws.FnExactOidBytes", spec := "fnExactOidBytes", apart := false }
def FnExactOidBytesSaid : Prop := fnExactOidBytesRow.holds Try.pinned (OpenSpec.ofChange fnExactOidBytesSpec)

/-- ITS FALSE NEIGHBOUR: 'it returns false'. Refute it at one input. -/
def fnExactOidBytesWrong : ChangeSpec := { name := "fnExactOidBytes", fn := fun _ => fun
  | [d] => { results := [.lit (.bool false)], args := [d] }
  | _ => none }
def FnExactOidBytesWrongFalsely : Prop := fnExactOidBytesRow.holds Try.pinned (OpenSpec.ofChange fnExactOidBytesWrong)

/-- 'laws.FnExactReadOid': WHATEVER THE INPUT: true; the input reads as it did. -/
def fnExactReadOidSpec : ChangeSpec := { name := "fnExactReadOid", fn := fun _ => fun
  | [d] => { results := [.lit (.bool true)], args := [d] }
  | _ => none }
def fnExactReadOidRow : OpenClaim := { program := "ytjkojofpkeglpaa", sum := "327864ce904a1dab421284a3d2392b86e714038c55f1b57de95acf57ee27feb6", func := "loop.example/g00148/laws.FnExactReadOid", spec := "fnExactReadOid", apart := false }
def FnExactReadOidSaid : Prop := fnExactReadOidRow.holds Try.pinned (OpenSpec.ofChange fnExactReadOidSpec)

/-- ITS FALSE NEIGHBOUR: 'it returns false'. Refute it at one input. -/
def fnExactReadOidWrong : ChangeSpec := { name := "fnExactReadOid", fn := fun _ => fun
  | [d] => { results := [.lit (.bool false)], args := [d] }
  | _ => none }
def FnExactReadOidWrongFalsely : Prop := fnExactReadOidRow.holds Try.pinned (OpenSpec.ofChange fnExactReadOidWrong)

/-- 'laws.FnNumbers7': WHATEVER THE INPUT: true; the input reads as it did. -/
def fnNumbers7Spec : ChangeSpec := { name := "fnNumbers7", fn := fun _ => fun
  | [d] => { results := [.lit (.bool true)], args := [d] }
  | _ => none }
def fnNumbers7Row : OpenClaim := { program := "ytjkojofpkeglpaa", sum := "327864ce904a1dab421284a3d2392b86e714038c55f1b57de95acf57ee27feb6", func := "loop.example/g00148/laws.FnNumbers7", spec := "fnNumbers7", apart := false }
def FnNumbers7Said : Prop := fnNumbers7Row.holds Try.pinned (OpenSpec.ofChange fnNumbers7Spec)

/-- ITS FALSE NEIGHBOUR: 'it returns false'. Refute it at one input. -/
def fnNumbers7Wrong : ChangeSpec := { name := "fnNumbers7", fn := fun _ => fun
  | [d] => { results := [.lit (.bool false)], args := [d] }
  | _ => none }
def FnNumbers7WrongFalsely : Prop := fnNumbers7Row.holds Try.pinned (OpenSpec.ofChange fnNumbers7Wrong)

/-- 'laws.FnExactTreeOk': WHATEVER THE INPUT: true; the input reads as it did. -/
def fnExactTreeOkSpec : ChangeSpec := { name := "fnExactTreeOk", fn := fun _ => fun
  | [d] => { results := [.lit (.bool true)], args := [d] }
  | _ => none }
def fnExactTreeOkRow : OpenClaim := { program := "ytjkojofpkeglpaa", sum := "327864ce904a1dab421284a3d2392b86e714038c55f1b57de95acf57ee27feb6", func := "loop.example/g00148/laws.FnExactTreeOk", spec := "fnExactTreeOk", unfollowed := true, recurses := true, apart := false }
def FnExactTreeOkSaid : Prop := fnExactTreeOkRow.holds Try.pinned (OpenSpec.ofChange fnExactTreeOkSpec)

/-- ITS FALSE NEIGHBOUR: 'it returns false'. Refute it at one input. -/
def fnExactTreeOkWrong : ChangeSpec := { name := "fnExactTreeOk", fn := fun _ => fun
  | [d] => { results := [.lit (.bool false)], args := [d] }
  | _ => none }
def FnExactTreeOkWrongFalsely : Prop := fnExactTreeOkRow.holds Try.pinned (OpenSpec.ofChange fnExactTreeOkWrong)

/- THE SECOND FORM. 'bulk': how many values and letters a reading holds, each counted each time it is reached (what is shared counts as often as it is met; a slice's spare places count too). A statement '..UptoSaid' is the law's where the arguments, and the package variables that the reading takes, are together of bulk at most 1048576: NARROWER than '..Said'. Prove '..Said' where nothing that the law and all that it calls make is longer than what came in: it says more and counts as full. Else prove '..UptoSaid'. A law counts once. -/
mutual
def uptoBulk {H : Type} : DataW H → Nat
  | .lit (.string bytes) => bytes.length + 1
  | .lit _ => 1
  | .nil => 1
  | .ptr d => uptoBulk d + 1
  | .slice elems spare => uptoBulkAll elems + uptoBulkAll spare + 1
  | .agg parts => uptoBulkAll parts + 1
  | .iface _ d => uptoBulk d + 1
  | .map entries => uptoBulkEntries entries + 1
  | .held _ => 1
def uptoBulkAll {H : Type} : List (DataW H) → Nat
  | [] => 0
  | d :: r => uptoBulk d + uptoBulkAll r
def uptoBulkEntries {H : Type} : List (Lit × DataW H) → Nat
  | [] => 0
  | x :: r => uptoBulkEntry x + uptoBulkEntries r
def uptoBulkEntry {H : Type} : Lit × DataW H → Nat
  | (.string bytes, d) => bytes.length + uptoBulk d + 1
  | (_, d) => uptoBulk d + 1
 end
def uptoSmall : (H : Type) → List (DataW H) → Bool := fun _ ds => decide (uptoBulkAll ds ≤ 1048576)
def OpenSpec.upto (s : _root_.Go.ChangeSpec) : _root_.Go.OpenSpec := { _root_.Go.OpenSpec.ofChange s with cond := some uptoSmall }

/-- 'laws.FnExactIntBytes', WHERE WHAT IT READS IS OF BULK AT MOST 1048576: true; the input reads as it did. -/
def fnExactIntBytesUptoRow : OpenClaim := { program := "ytjkojofpkeglpaa", sum := "327864ce904a1dab421284a3d2392b86e714038c55f1b57de95acf57ee27feb6", func := "loop.example/g00148/laws.FnExactIntBytes", spec := "fnExactIntBytes", apart := false, narrowed := true }
def FnExactIntBytesUptoSaid : Prop := fnExactIntBytesUptoRow.holds Try.pinned (OpenSpec.upto fnExactIntBytesSpec)

/-- 'laws.FnExactReadIntBytes', WHERE WHAT IT READS IS OF BULK AT MOST 1048576: true; the input reads as it did. -/
def fnExactReadIntBytesUptoRow : OpenClaim := { program := "ytjkojofpkeglpaa", sum := "327864ce904a1dab421284a3d2392b86e714038c55f1b57de95acf57ee27feb6", func := "loop.example/g00148/laws.FnExactReadIntBytes", spec := "fnExactReadIntBytes", apart := false, narrowed := true }
def FnExactReadIntBytesUptoSaid : Prop := fnExactReadIntBytesUptoRow.holds Try.pinned (OpenSpec.upto fnExactReadIntBytesSpec)

/-- 'laws.FnExactOidBytes', WHERE WHAT IT READS IS OF BULK AT MOST 1048576: true; the input reads as it did. -/
def fnExactOidBytesUptoRow : OpenClaim := { program := "ytjkojofpkeglpaa", sum := "327864ce904a1dab421284a3d2392b86e714038c55f1b57de95acf57ee27feb6", func := "loop.example/g00148/laws.FnExactOidBytes", spec := "fnExactOidBytes", apart := false, narrowed := true }
def FnExactOidBytesUptoSaid : Prop := fnExactOidBytesUptoRow.holds Try.pinned (OpenSpec.upto fnExactOidBytesSpec)

/-- 'laws.FnExactReadOid', WHERE WHAT IT READS IS OF BULK AT MOST 1048576: true; the input reads as it did. -/
def fnExactReadOidUptoRow : OpenClaim := { program := "ytjkojofpkeglpaa", sum := "327864ce904a1dab421284a3d2392b86e714038c55f1b57de95acf57ee27feb6", func := "loop.example/g00148/laws.FnExactReadOid", spec := "fnExactReadOid", apart := false, narrowed := true }
def FnExactReadOidUptoSaid : Prop := fnExactReadOidUptoRow.holds Try.pinned (OpenSpec.upto fnExactReadOidSpec)

/-- 'laws.FnNumbers7', WHERE WHAT IT READS IS OF BULK AT MOST 1048576: true; the input reads as it did. -/
def fnNumbers7UptoRow : OpenClaim := { program := "ytjkojofpkeglpaa", sum := "327864ce904a1dab421284a3d2392b86e714038c55f1b57de95acf57ee27feb6", func := "loop.example/g00148/laws.FnNumbers7", spec := "fnNumbers7", apart := false, narrowed := true }
def FnNumbers7UptoSaid : Prop := fnNumbers7UptoRow.holds Try.pinned (OpenSpec.upto fnNumbers7Spec)

/-- 'laws.FnExactTreeOk', WHERE WHAT IT READS IS OF BULK AT MOST 1048576: true; the input reads as it did. -/
def fnExactTreeOkUptoRow : OpenClaim := { program := "ytjkojofpkeglpaa", sum := "327864ce904a1dab421284a3d2392b86e714038c55f1b57de95acf57ee27feb6", func := "loop.example/g00148/laws.FnExactTreeOk", spec := "fnExactTreeOk", unfollowed := true, recurses := true, apart := false, narrowed := true }
def FnExactTreeOkUptoSaid : Prop := fnExactTreeOkUptoRow.holds Try.pinned (OpenSpec.upto fnExactTreeOkSpec)

end Rows
end Go.Proofs.Ytjkojofpkeglpaa
