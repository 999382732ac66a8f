/-
  No cell of these rows narrows 'for every input' (looked for: loops, veiled, ifaces, maps, wideKeys, modest, calm, conditions, laid).
  DERIVED. THE GIVEN ROWS OF THIS SEAT. 6 by the template 'for every input the law returns true; each argument reads behind the call as it read before'; 0 by the template 'total and deterministic' (their statements: YtmkmojcefgcmlabTotals.lean).
  GIVEN WITH THE SEED: the statements are not yours to turn. If you find one false, say at which input.
  Laid BY PROGRAM, IN A SANDBOX (cutbox-rows.mjs): the forced cells as the released guide's own fill.sh prints them over the translation 6ca937edc47acfa2… (all of the seat's roots in one cut). By AI agents, Wed Nov 11 2026. No macro, syntax, notation, axiom, sorry.
-/
import Derived.Test.YtmkmojcefgcmlabChecked
import GoSem.Claim
import GoSem.ClaimJoined
import GoSem.ClaimMapViews
import Derived.JoinedTies
import Derived.KernelRfl
namespace Go.Proofs.Ytmkmojcefgcmlab
/- THE CELL 'sum', in the pinned program and in every row, IS THE sha256 OF THE DUMP (.gsa) THAT YtmkmojcefgcmlabProg.lean LOADS. Nothing in Lean hashes anything: it is a label: what it is worth is what the hold of that sum in a sandbox is worth. -/
noncomputable def Try.pinned : Pinned := { name := "ytmkmojcefgcmlab", sum := "6ca937edc47acfa29b5113781f49559afc19fe8ceed22e79774386d45181a0c4", checked := Try.checked }
namespace Rows
def none {H : Type} : Left H := { results := [], args := [] }

/-- 'laws.FnExactModMul': WHATEVER THE INPUT: true; the input reads as it did. -/
def fnExactModMulSpec : ChangeSpec := { name := "fnExactModMul", fn := fun _ => fun
  | [d1, d2, d3] => { results := [.lit (.bool true)], args := [d1, d2, d3] }
  | _ => none }
def fnExactModMulRow : OpenClaim := { program := "ytmkmojcefgcmlab", sum := "6ca937edc47acfa29b5113781f49559afc19fe8ceed22e79774386d45181a0c4", func := "loop.example/g00148/laws.FnExactModMul", spec := "fnExactModMul", unfollowed := true, recurses := true, apart := false }
def FnExactModMulSaid : Prop := fnExactModMulRow.holds Try.pinned (OpenSpec.ofChange fnExactModMulSpec)

/-- ITS FALSE NEIGHBOUR: 'it returns false'. Refute it at one input. -/
def fnExactModMulWrong : ChangeSpec := { name := "fnExactModMul", fn := fun _ => fun
  | [d1, d2, d3] => { results := [.lit (.bool false)], args := [d1, d2, d3] }
  | _ => none }
def FnExactModMulWrongFalsely : Prop := fnExactModMulRow.holds Try.pinned (OpenSpec.ofChange fnExactModMulWrong)

/-- 'laws.FnExactModPow': WHATEVER THE INPUT: true; the input reads as it did. -/
def fnExactModPowSpec : ChangeSpec := { name := "fnExactModPow", fn := fun _ => fun
  | [d1, d2, d3] => { results := [.lit (.bool true)], args := [d1, d2, d3] }
  | _ => none }
def fnExactModPowRow : OpenClaim := { program := "ytmkmojcefgcmlab", sum := "6ca937edc47acfa29b5113781f49559afc19fe8ceed22e79774386d45181a0c4", func := "loop.example/g00148/laws.FnExactModPow", spec := "fnExactModPow", unfollowed := true, recurses := true, apart := false }
def FnExactModPowSaid : Prop := fnExactModPowRow.holds Try.pinned (OpenSpec.ofChange fnExactModPowSpec)

/-- ITS FALSE NEIGHBOUR: 'it returns false'. Refute it at one input. -/
def fnExactModPowWrong : ChangeSpec := { name := "fnExactModPow", fn := fun _ => fun
  | [d1, d2, d3] => { results := [.lit (.bool false)], args := [d1, d2, d3] }
  | _ => none }
def FnExactModPowWrongFalsely : Prop := fnExactModPowRow.holds Try.pinned (OpenSpec.ofChange fnExactModPowWrong)

/-- 'laws.FnExactModInv': WHATEVER THE INPUT: true; the input reads as it did. -/
def fnExactModInvSpec : ChangeSpec := { name := "fnExactModInv", fn := fun _ => fun
  | [d1, d2] => { results := [.lit (.bool true)], args := [d1, d2] }
  | _ => none }
def fnExactModInvRow : OpenClaim := { program := "ytmkmojcefgcmlab", sum := "6ca937edc47acfa29b5113781f49559afc19fe8ceed22e79774386d45181a0c4", func := "loop.example/g00148/laws.FnExactModInv", spec := "fnExactModInv", unfollowed := true, recurses := true, apart := false }
def FnExactModInvSaid : Prop := fnExactModInvRow.holds Try.pinned (OpenSpec.ofChange fnExactModInvSpec)

/-- ITS FALSE NEIGHBOUR: 'it returns false'. Refute it at one input. -/
def fnExactModInvWrong : ChangeSpec := { name := "fnExactModInv", fn := fun _ => fun
  | [d1, d2] => { results := [.lit (.bool false)], args := [d1, d2] }
  | _ => none }
def FnExactModInvWrongFalsely : Prop := fnExactModInvRow.holds Try.pinned (OpenSpec.ofChange fnExactModInvWrong)

/-- 'laws.FnExactGcd': WHATEVER THE INPUT: true; the input reads as it did. -/
def fnExactGcdSpec : ChangeSpec := { name := "fnExactGcd", fn := fun _ => fun
  | [d1, d2] => { results := [.lit (.bool true)], args := [d1, d2] }
  | _ => none }
def fnExactGcdRow : OpenClaim := { program := "ytmkmojcefgcmlab", sum := "6ca937edc47acfa29b5113781f49559afc19fe8ceed22e79774386d45181a0c4", func := "loop.example/g00148/laws.FnExactGcd", spec := "fnExactGcd", apart := false }
def FnExactGcdSaid : Prop := fnExactGcdRow.holds Try.pinned (OpenSpec.ofChange fnExactGcdSpec)

/-- ITS FALSE NEIGHBOUR: 'it returns false'. Refute it at one input. -/
def fnExactGcdWrong : ChangeSpec := { name := "fnExactGcd", fn := fun _ => fun
  | [d1, d2] => { results := [.lit (.bool false)], args := [d1, d2] }
  | _ => none }
def FnExactGcdWrongFalsely : Prop := fnExactGcdRow.holds Try.pinned (OpenSpec.ofChange fnExactGcdWrong)

/-- 'laws.FnExactPowInt': WHATEVER THE INPUT: true; the input reads as it did. -/
def fnExactPowIntSpec : ChangeSpec := { name := "fnExactPowInt", fn := fun _ => fun
  | [d1, d2, d3] => { results := [.lit (.bool true)], args := [d1, d2, d3] }
  | _ => none }
def fnExactPowIntRow : OpenClaim := { program := "ytmkmojcefgcmlab", sum := "6ca937edc47acfa29b5113781f49559afc19fe8ceed22e79774386d45181a0c4", func := "loop.example/g00148/laws.FnExactPowInt", spec := "fnExactPowInt", apart := false }
def FnExactPowIntSaid : Prop := fnExactPowIntRow.holds Try.pinned (OpenSpec.ofChange fnExactPowIntSpec)

/-- ITS FALSE NEIGHBOUR: 'it returns false'. Refute it at one input. -/
def fnExactPowIntWrong : ChangeSpec := { name := "fnExactPowInt", fn := fun _ => fun
  | [d1, d2, d3] => { results := [.lit (.bool false)], args := [d1, d2, d3] }
  | _ => none }
def FnExactPowIntWrongFalsely : Prop := fnExactPowIntRow.holds Try.pinned (OpenSpec.ofChange fnExactPowIntWrong)

/-- 'laws.FnExactInvInt': WHATEVER THE INPUT: true; the input reads as it did. -/
def fnExactInvIntSpec : ChangeSpec := { name := "fnExactInvInt", fn := fun _ => fun
  | [d1, d2] => { results := [.lit (.bool true)], args := [d1, d2] }
  | _ => none }
def fnExactInvIntRow : OpenClaim := { program := "ytmkmojcefgcmlab", sum := "6ca937edc47acfa29b5113781f49559afc19fe8ceed22e79774386d45181a0c4", func := "loop.example/g00148/laws.FnExactInvInt", spec := "fnExactInvInt", apart := false }
def FnExactInvIntSaid : Prop := fnExactInvIntRow.holds Try.pinned (OpenSpec.ofChange fnExactInvIntSpec)

/-- ITS FALSE NEIGHBOUR: 'it returns false'. Refute it at one input. -/
def fnExactInvIntWrong : ChangeSpec := { name := "fnExactInvInt", fn := fun _ => fun
  | [d1, d2] => { results := [.lit (.bool false)], args := [d1, d2] }
  | _ => none }
def FnExactInvIntWrongFalsely : Prop := fnExactInvIntRow.holds Try.pinned (OpenSpec.ofChange fnExactInvIntWrong)

/- THE SECOND FORM. 'bulk': how many values and letters a reading holds, each counted each time it is reached (what is shared counts as often as it is met; a slice's spare places count too). A statement '..UptoSaid' is the law's where the arguments, and the package variables that the reading takes, are together of bulk at most 1048576: NARROWER than '..Said'. Prove '..Said' where nothing that the law and all that it calls make is longer than what came in: it says more and counts as full. Else prove '..UptoSaid'. A law counts once. -/
mutual
def uptoBulk {H : Type} : DataW H → Nat
  | .lit (.string bytes) => bytes.length + 1
  | .lit _ => 1
  | .nil => 1
  | .ptr d => uptoBulk d + 1
  | .slice elems spare => uptoBulkAll elems + uptoBulkAll spare + 1
  | .agg parts => uptoBulkAll parts + 1
  | .iface _ d => uptoBulk d + 1
  | .map entries => uptoBulkEntries entries + 1
  | .held _ => 1
def uptoBulkAll {H : Type} : List (DataW H) → Nat
  | [] => 0
  | d :: r => uptoBulk d + uptoBulkAll r
def uptoBulkEntries {H : Type} : List (Lit × DataW H) → Nat
  | [] => 0
  | x :: r => uptoBulkEntry x + uptoBulkEntries r
def uptoBulkEntry {H : Type} : Lit × DataW H → Nat
  | (.string bytes, d) => bytes.length + uptoBulk d + 1
  | (_, d) => uptoBulk d + 1
 end
def uptoSmall : (H : Type) → List (DataW H) → Bool := fun _ ds => decide (uptoBulkAll ds ≤ 1048576)
def OpenSpec.upto (s : _root_.Go.ChangeSpec) : _root_.Go.OpenSpec := { _root_.Go.OpenSpec.ofChange s with cond := some uptoSmall }

/-- 'laws.FnExactModMul', WHERE WHAT IT READS IS OF BULK AT MOST 1048576: true; the input reads as it did. -/
def fnExactModMulUptoRow : OpenClaim := { program := "ytmkmojcefgcmlab", sum := "6ca937edc47acfa29b5113781f49559afc19fe8ceed22e79774386d45181a0c4", func := "loop.example/g00148/laws.FnExactModMul", spec := "fnExactModMul", unfollowed := true, recurses := true, apart := false, narrowed := true }
def FnExactModMulUptoSaid : Prop := fnExactModMulUptoRow.holds Try.pinned (OpenSpec.upto fnExactModMulSpec)

/-- 'laws.FnExactModPow', WHERE WHAT IT READS IS OF BULK AT MOST 1048576: true; the input reads as it did. -/
def fnExactModPowUptoRow : OpenClaim := { program := "ytmkmojcefgcmlab", sum := "6ca937edc47acfa29b5113781f49559afc19fe8ceed22e79774386d45181a0c4", func := "loop.example/g00148/laws.FnExactModPow", spec := "fnExactModPow", unfollowed := true, recurses := true, apart := false, narrowed := true }
def FnExactModPowUptoSaid : Prop := fnExactModPowUptoRow.holds Try.pinned (OpenSpec.upto fnExactModPowSpec)

/-- 'laws.FnExactModInv', WHERE WHAT IT READS IS OF BULK AT MOST 1048576: true; the input reads as it did. -/
def fnExactModInvUptoRow : OpenClaim := { program := "ytmkmojcefgcmlab", sum := "6ca937edc47acfa29b5113781f49559afc19fe8ceed22e79774386d45181a0c4", func := "loop.example/g00148/laws.FnExactModInv", spec := "fnExactModInv", unfollowed := true, recurses := true, apart := false, narrowed := true }
def FnExactModInvUptoSaid : Prop := fnExactModInvUptoRow.holds Try.pinned (OpenSpec.upto fnExactModInvSpec)

/-- 'laws.FnExactGcd', WHERE WHAT IT READS IS OF BULK AT MOST 1048576: true; the input reads as it did. -/
def fnExactGcdUptoRow : OpenClaim := { program := "ytmkmojcefgcmlab", sum := "6ca937edc47acfa29b5113781f49559afc19fe8ceed22e79774386d45181a0c4", func := "loop.example/g00148/laws.FnExactGcd", spec := "fnExactGcd", apart := false, narrowed := true }
def FnExactGcdUptoSaid : Prop := fnExactGcdUptoRow.holds Try.pinned (OpenSpec.upto fnExactGcdSpec)

/-- 'laws.FnExactPowInt', WHERE WHAT IT READS IS OF BULK AT MOST 1048576: true; the input reads as it did. -/
def fnExactPowIntUptoRow : OpenClaim := { program := "ytmkmojcefgcmlab", sum := "6ca937edc47acfa29b5113781f49559afc19fe8ceed22e79774386d45181a0c4", func := "loop.example/g00148/laws.FnExactPowInt", spec := "fnExactPowInt", apart := false, narrowed := true }
def FnExactPowIntUptoSaid : Prop := fnExactPowIntUptoRow.holds Try.pinned (OpenSpec.upto fnExactPowIntSpec)

/-- 'laws.FnExactInvInt', WHERE WHAT IT READS IS OF BULK AT MOST 1048576: true; the input reads as it did. -/
def fnExactInvIntUptoRow : OpenClaim := { program := "ytmkmojcefgcmlab", sum := "6ca937edc47acfa29b5113781f49559afc19fe8ceed22e79774386d45181a0c4", func := "loop.example/g00148/laws.FnExactInvInt", spec := "fnExactInvInt", apart := false, narrowed := true }
def FnExactInvIntUptoSaid : Prop := fnExactInvIntUptoRow.holds Try.pinned (OpenSpec.upto fnExactInvIntSpec)

end Rows
end Go.Proofs.Ytmkmojcefgcmlab
