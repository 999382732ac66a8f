/-
  No cell of these rows narrows 'for every input' (looked for: loops, veiled, ifaces, maps, wideKeys, modest, calm, conditions, laid).
  DERIVED. THE GIVEN ROWS OF THIS SEAT. 6 by the template 'for every input the law returns true; each argument reads behind the call as it read before'; 0 by the template 'total and deterministic' (their statements: YtjkojofpkeglpabTotals.lean).
  GIVEN WITH THE SEED: the statements are not yours to turn. If you find one false, say at which input.
  Laid BY PROGRAM, IN A SANDBOX (cutbox-rows.mjs): the forced cells as the released guide's own fill.sh prints them over the translation 1a5a0c581a9c49d9… (all of the seat's roots in one cut). By AI agents, Wed Nov 11 2026. No macro, syntax, notation, axiom, sorry.
-/
import Derived.Test.YtjkojofpkeglpabChecked
import GoSem.Claim
import GoSem.ClaimJoined
import GoSem.ClaimMapViews
import Derived.JoinedTies
import Derived.KernelRfl
namespace Go.Proofs.Ytjkojofpkeglpab
/- THE CELL 'sum', in the pinned program and in every row, IS THE sha256 OF THE DUMP (.gsa) THAT YtjkojofpkeglpabProg.lean LOADS. Nothing in Lean hashes anything: it is a label: what it is worth is what the hold of that sum in a sandbox is worth. -/
noncomputable def Try.pinned : Pinned := { name := "ytjkojofpkeglpab", sum := "1a5a0c581a9c49d99f8466e8605828b5fc095d7496c2eb088fc766c8181c5cc5", checked := Try.checked }
namespace Rows
def none {H : Type} : Left H := { results := [], args := [] }

/-- 'laws.FnHmac': WHATEVER THE INPUT: true; the input reads as it did. -/
def fnHmacSpec : ChangeSpec := { name := "fnHmac", fn := fun _ => fun
  | [d] => { results := [.lit (.bool true)], args := [d] }
  | _ => none }
def fnHmacRow : OpenClaim := { program := "ytjkojofpkeglpab", sum := "1a5a0c581a9c49d99f8466e8605828b5fc095d7496c2eb088fc766c8181c5cc5", func := "loop.example/g00148/laws.FnHmac", spec := "fnHmac", apart := false }
def FnHmacSaid : Prop := fnHmacRow.holds Try.pinned (OpenSpec.ofChange fnHmacSpec)

/-- ITS FALSE NEIGHBOUR: 'it returns false'. Refute it at one input. -/
def fnHmacWrong : ChangeSpec := { name := "fnHmac", fn := fun _ => fun
  | [d] => { results := [.lit (.bool false)], args := [d] }
  | _ => none }
def FnHmacWrongFalsely : Prop := fnHmacRow.holds Try.pinned (OpenSpec.ofChange fnHmacWrong)

/-- 'laws.FnPadding': WHATEVER THE INPUT: true; the input reads as it did. -/
def fnPaddingSpec : ChangeSpec := { name := "fnPadding", fn := fun _ => fun
  | [d] => { results := [.lit (.bool true)], args := [d] }
  | _ => none }
def fnPaddingRow : OpenClaim := { program := "ytjkojofpkeglpab", sum := "1a5a0c581a9c49d99f8466e8605828b5fc095d7496c2eb088fc766c8181c5cc5", func := "loop.example/g00148/laws.FnPadding", spec := "fnPadding", inPlace := ["internal/bytealg.MakeNoZero"], apart := false }
def FnPaddingSaid : Prop := fnPaddingRow.holds Try.pinned (OpenSpec.ofChange fnPaddingSpec)

/-- ITS FALSE NEIGHBOUR: 'it returns false'. Refute it at one input. -/
def fnPaddingWrong : ChangeSpec := { name := "fnPadding", fn := fun _ => fun
  | [d] => { results := [.lit (.bool false)], args := [d] }
  | _ => none }
def FnPaddingWrongFalsely : Prop := fnPaddingRow.holds Try.pinned (OpenSpec.ofChange fnPaddingWrong)

/-- 'laws.FnExactPadded': WHATEVER THE INPUT: true; the input reads as it did. -/
def fnExactPaddedSpec : ChangeSpec := { name := "fnExactPadded", fn := fun _ => fun
  | [d1, d2] => { results := [.lit (.bool true)], args := [d1, d2] }
  | _ => none }
def fnExactPaddedRow : OpenClaim := { program := "ytjkojofpkeglpab", sum := "1a5a0c581a9c49d99f8466e8605828b5fc095d7496c2eb088fc766c8181c5cc5", func := "loop.example/g00148/laws.FnExactPadded", spec := "fnExactPadded", inPlace := ["internal/bytealg.MakeNoZero"], apart := false }
def FnExactPaddedSaid : Prop := fnExactPaddedRow.holds Try.pinned (OpenSpec.ofChange fnExactPaddedSpec)

/-- ITS FALSE NEIGHBOUR: 'it returns false'. Refute it at one input. -/
def fnExactPaddedWrong : ChangeSpec := { name := "fnExactPadded", fn := fun _ => fun
  | [d1, d2] => { results := [.lit (.bool false)], args := [d1, d2] }
  | _ => none }
def FnExactPaddedWrongFalsely : Prop := fnExactPaddedRow.holds Try.pinned (OpenSpec.ofChange fnExactPaddedWrong)

/-- 'laws.FnExactPssOk': WHATEVER THE INPUT: true; the input reads as it did. -/
def fnExactPssOkSpec : ChangeSpec := { name := "fnExactPssOk", fn := fun _ => fun
  | [d1, d2, d3] => { results := [.lit (.bool true)], args := [d1, d2, d3] }
  | _ => none }
def fnExactPssOkRow : OpenClaim := { program := "ytjkojofpkeglpab", sum := "1a5a0c581a9c49d99f8466e8605828b5fc095d7496c2eb088fc766c8181c5cc5", func := "loop.example/g00148/laws.FnExactPssOk", spec := "fnExactPssOk", apart := false }
def FnExactPssOkSaid : Prop := fnExactPssOkRow.holds Try.pinned (OpenSpec.ofChange fnExactPssOkSpec)

/-- ITS FALSE NEIGHBOUR: 'it returns false'. Refute it at one input. -/
def fnExactPssOkWrong : ChangeSpec := { name := "fnExactPssOk", fn := fun _ => fun
  | [d1, d2, d3] => { results := [.lit (.bool false)], args := [d1, d2, d3] }
  | _ => none }
def FnExactPssOkWrongFalsely : Prop := fnExactPssOkRow.holds Try.pinned (OpenSpec.ofChange fnExactPssOkWrong)

/-- 'laws.FnExactChildren': WHATEVER THE INPUT: true; the input reads as it did. -/
def fnExactChildrenSpec : ChangeSpec := { name := "fnExactChildren", fn := fun _ => fun
  | [d1, d2] => { results := [.lit (.bool true)], args := [d1, d2] }
  | _ => none }
def fnExactChildrenRow : OpenClaim := { program := "ytjkojofpkeglpab", sum := "1a5a0c581a9c49d99f8466e8605828b5fc095d7496c2eb088fc766c8181c5cc5", func := "loop.example/g00148/laws.FnExactChildren", spec := "fnExactChildren", unfollowed := true, recurses := true, apart := false }
def FnExactChildrenSaid : Prop := fnExactChildrenRow.holds Try.pinned (OpenSpec.ofChange fnExactChildrenSpec)

/-- ITS FALSE NEIGHBOUR: 'it returns false'. Refute it at one input. -/
def fnExactChildrenWrong : ChangeSpec := { name := "fnExactChildren", fn := fun _ => fun
  | [d1, d2] => { results := [.lit (.bool false)], args := [d1, d2] }
  | _ => none }
def FnExactChildrenWrongFalsely : Prop := fnExactChildrenRow.holds Try.pinned (OpenSpec.ofChange fnExactChildrenWrong)

/-- 'laws.FnExactPart': WHATEVER THE INPUT: true; the input reads as it did. -/
def fnExactPartSpec : ChangeSpec := { name := "fnExactPart", fn := fun _ => fun
  | [d1, d2] => { results := [.lit (.bool true)], args := [d1, d2] }
  | _ => none }
def fnExactPartRow : OpenClaim := { program := "ytjkojofpkeglpab", sum := "1a5a0c581a9c49d99f8466e8605828b5fc095d7496c2eb088fc766c8181c5cc5", func := "loop.example/g00148/laws.FnExactPart", spec := "fnExactPart", unfollowed := true, recurses := true, apart := false }
def FnExactPartSaid : Prop := fnExactPartRow.holds Try.pinned (OpenSpec.ofChange fnExactPartSpec)

/-- ITS FALSE NEIGHBOUR: 'it returns false'. Refute it at one input. -/
def fnExactPartWrong : ChangeSpec := { name := "fnExactPart", fn := fun _ => fun
  | [d1, d2] => { results := [.lit (.bool false)], args := [d1, d2] }
  | _ => none }
def FnExactPartWrongFalsely : Prop := fnExactPartRow.holds Try.pinned (OpenSpec.ofChange fnExactPartWrong)

/- THE SECOND FORM. 'bulk': how many values and letters a reading holds, each counted each time it is reached (what is shared counts as often as it is met; a slice's spare places count too). A statement '..UptoSaid' is the law's where the arguments, and the package variables that the reading takes, are together of bulk at most 1048576: NARROWER than '..Said'. Prove '..Said' where nothing that the law and all that it calls make is longer than what came in: it says more and counts as full. Else prove '..UptoSaid'. A law counts once. -/
mutual
def uptoBulk {H : Type} : DataW H → Nat
  | .lit (.string bytes) => bytes.length + 1
  | .lit _ => 1
  | .nil => 1
  | .ptr d => uptoBulk d + 1
  | .slice elems spare => uptoBulkAll elems + uptoBulkAll spare + 1
  | .agg parts => uptoBulkAll parts + 1
  | .iface _ d => uptoBulk d + 1
  | .map entries => uptoBulkEntries entries + 1
  | .held _ => 1
def uptoBulkAll {H : Type} : List (DataW H) → Nat
  | [] => 0
  | d :: r => uptoBulk d + uptoBulkAll r
def uptoBulkEntries {H : Type} : List (Lit × DataW H) → Nat
  | [] => 0
  | x :: r => uptoBulkEntry x + uptoBulkEntries r
def uptoBulkEntry {H : Type} : Lit × DataW H → Nat
  | (.string bytes, d) => bytes.length + uptoBulk d + 1
  | (_, d) => uptoBulk d + 1
 end
def uptoSmall : (H : Type) → List (DataW H) → Bool := fun _ ds => decide (uptoBulkAll ds ≤ 1048576)
def OpenSpec.upto (s : _root_.Go.ChangeSpec) : _root_.Go.OpenSpec := { _root_.Go.OpenSpec.ofChange s with cond := some uptoSmall }

/-- 'laws.FnHmac', WHERE WHAT IT READS IS OF BULK AT MOST 1048576: true; the input reads as it did. -/
def fnHmacUptoRow : OpenClaim := { program := "ytjkojofpkeglpab", sum := "1a5a0c581a9c49d99f8466e8605828b5fc095d7496c2eb088fc766c8181c5cc5", func := "loop.example/g00148/laws.FnHmac", spec := "fnHmac", apart := false, narrowed := true }
def FnHmacUptoSaid : Prop := fnHmacUptoRow.holds Try.pinned (OpenSpec.upto fnHmacSpec)

/-- 'laws.FnPadding', WHERE WHAT IT READS IS OF BULK AT MOST 1048576: true; the input reads as it did. -/
def fnPaddingUptoRow : OpenClaim := { program := "ytjkojofpkeglpab", sum := "1a5a0c581a9c49d99f8466e8605828b5fc095d7496c2eb088fc766c8181c5cc5", func := "loop.example/g00148/laws.FnPadding", spec := "fnPadding", inPlace := ["internal/bytealg.MakeNoZero"], apart := false, narrowed := true }
def FnPaddingUptoSaid : Prop := fnPaddingUptoRow.holds Try.pinned (OpenSpec.upto fnPaddingSpec)

/-- 'laws.FnExactPadded', WHERE WHAT IT READS IS OF BULK AT MOST 1048576: true; the input reads as it did. -/
def fnExactPaddedUptoRow : OpenClaim := { program := "ytjkojofpkeglpab", sum := "1a5a0c581a9c49d99f8466e8605828b5fc095d7496c2eb088fc766c8181c5cc5", func := "loop.example/g00148/laws.FnExactPadded", spec := "fnExactPadded", inPlace := ["internal/bytealg.MakeNoZero"], apart := false, narrowed := true }
def FnExactPaddedUptoSaid : Prop := fnExactPaddedUptoRow.holds Try.pinned (OpenSpec.upto fnExactPaddedSpec)

/-- 'laws.FnExactPssOk', WHERE WHAT IT READS IS OF BULK AT MOST 1048576: true; the input reads as it did. -/
def fnExactPssOkUptoRow : OpenClaim := { program := "ytjkojofpkeglpab", sum := "1a5a0c581a9c49d99f8466e8605828b5fc095d7496c2eb088fc766c8181c5cc5", func := "loop.example/g00148/laws.FnExactPssOk", spec := "fnExactPssOk", apart := false, narrowed := true }
def FnExactPssOkUptoSaid : Prop := fnExactPssOkUptoRow.holds Try.pinned (OpenSpec.upto fnExactPssOkSpec)

/-- 'laws.FnExactChildren', WHERE WHAT IT READS IS OF BULK AT MOST 1048576: true; the input reads as it did. -/
def fnExactChildrenUptoRow : OpenClaim := { program := "ytjkojofpkeglpab", sum := "1a5a0c581a9c49d99f8466e8605828b5fc095d7496c2eb088fc766c8181c5cc5", func := "loop.example/g00148/laws.FnExactChildren", spec := "fnExactChildren", unfollowed := true, recurses := true, apart := false, narrowed := true }
def FnExactChildrenUptoSaid : Prop := fnExactChildrenUptoRow.holds Try.pinned (OpenSpec.upto fnExactChildrenSpec)

/-- 'laws.FnExactPart', WHERE WHAT IT READS IS OF BULK AT MOST 1048576: true; the input reads as it did. -/
def fnExactPartUptoRow : OpenClaim := { program := "ytjkojofpkeglpab", sum := "1a5a0c581a9c49d99f8466e8605828b5fc095d7496c2eb088fc766c8181c5cc5", func := "loop.example/g00148/laws.FnExactPart", spec := "fnExactPart", unfollowed := true, recurses := true, apart := false, narrowed := true }
def FnExactPartUptoSaid : Prop := fnExactPartUptoRow.holds Try.pinned (OpenSpec.upto fnExactPartSpec)

end Rows
end Go.Proofs.Ytjkojofpkeglpab
