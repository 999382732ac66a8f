/-
  No cell of these rows narrows 'for every input' (looked for: loops, veiled, ifaces, maps, wideKeys, modest, calm, conditions, laid).
  DERIVED. THE GIVEN ROWS OF THIS SEAT. 3 by the template 'for every input the law returns true; each argument reads behind the call as it read before'; 0 by the template 'total and deterministic' (their statements: YtjpdllhhganbpaaTotals.lean).
  GIVEN WITH THE SEED: the statements are not yours to turn. If you find one false, say at which input.
  Laid BY PROGRAM, IN A SANDBOX (cutbox-rows.mjs): the forced cells as the released guide's own fill.sh prints them over the translation face613448aaf1f5… (all of the seat's roots in one cut). By AI agents, Wed Nov 11 2026. No macro, syntax, notation, axiom, sorry.
-/
import Derived.Test.YtjpdllhhganbpaaChecked
import GoSem.Claim
import GoSem.ClaimJoined
import GoSem.ClaimMapViews
import Derived.JoinedTies
import Derived.KernelRfl
namespace Go.Proofs.Ytjpdllhhganbpaa
/- THE CELL 'sum', in the pinned program and in every row, IS THE sha256 OF THE DUMP (.gsa) THAT YtjpdllhhganbpaaProg.lean LOADS. Nothing in Lean hashes anything: it is a label: what it is worth is what the hold of that sum in a sandbox is worth. -/
noncomputable def Try.pinned : Pinned := { name := "ytjpdllhhganbpaa", sum := "face613448aaf1f5941c3dff4101bc0f0aebb666ab349b367c92be318ef937c0", checked := Try.checked }
namespace Rows
def none {H : Type} : Left H := { results := [], args := [] }

/-- 'laws.FnExactReadPuny': WHATEVER THE INPUT: true; the input reads as it did. -/
def fnExactReadPunySpec : ChangeSpec := { name := "fnExactReadPuny", fn := fun _ => fun
  | [d] => { results := [.lit (.bool true)], args := [d] }
  | _ => none }
def fnExactReadPunyRow : OpenClaim := { program := "ytjpdllhhganbpaa", sum := "face613448aaf1f5941c3dff4101bc0f0aebb666ab349b367c92be318ef937c0", func := "loop.example/g00148/laws.FnExactReadPuny", spec := "fnExactReadPuny", inPlace := ["slices.overlaps[int]"], apart := false }
def FnExactReadPunySaid : Prop := fnExactReadPunyRow.holds Try.pinned (OpenSpec.ofChange fnExactReadPunySpec)

/-- ITS FALSE NEIGHBOUR: 'it returns false'. Refute it at one input. -/
def fnExactReadPunyWrong : ChangeSpec := { name := "fnExactReadPuny", fn := fun _ => fun
  | [d] => { results := [.lit (.bool false)], args := [d] }
  | _ => none }
def FnExactReadPunyWrongFalsely : Prop := fnExactReadPunyRow.holds Try.pinned (OpenSpec.ofChange fnExactReadPunyWrong)

/-- 'laws.FnPuny': WHATEVER THE INPUT: true; the input reads as it did. -/
def fnPunySpec : ChangeSpec := { name := "fnPuny", fn := fun _ => fun
  | [d] => { results := [.lit (.bool true)], args := [d] }
  | _ => none }
def fnPunyRow : OpenClaim := { program := "ytjpdllhhganbpaa", sum := "face613448aaf1f5941c3dff4101bc0f0aebb666ab349b367c92be318ef937c0", func := "loop.example/g00148/laws.FnPuny", spec := "fnPuny", inPlace := ["slices.overlaps[int]"], apart := false }
def FnPunySaid : Prop := fnPunyRow.holds Try.pinned (OpenSpec.ofChange fnPunySpec)

/-- ITS FALSE NEIGHBOUR: 'it returns false'. Refute it at one input. -/
def fnPunyWrong : ChangeSpec := { name := "fnPuny", fn := fun _ => fun
  | [d] => { results := [.lit (.bool false)], args := [d] }
  | _ => none }
def FnPunyWrongFalsely : Prop := fnPunyRow.holds Try.pinned (OpenSpec.ofChange fnPunyWrong)

/-- 'laws.FnExactErrText': WHATEVER THE INPUT: true; the input reads as it did. -/
def fnExactErrTextSpec : ChangeSpec := { name := "fnExactErrText", fn := fun _ => fun
  | [d] => { results := [.lit (.bool true)], args := [d] }
  | _ => none }
def fnExactErrTextRow : OpenClaim := { program := "ytjpdllhhganbpaa", sum := "face613448aaf1f5941c3dff4101bc0f0aebb666ab349b367c92be318ef937c0", func := "loop.example/g00148/laws.FnExactErrText", spec := "fnExactErrText", apart := false }
def FnExactErrTextSaid : Prop := fnExactErrTextRow.holds Try.pinned (OpenSpec.ofChange fnExactErrTextSpec)

/-- ITS FALSE NEIGHBOUR: 'it returns false'. Refute it at one input. -/
def fnExactErrTextWrong : ChangeSpec := { name := "fnExactErrText", fn := fun _ => fun
  | [d] => { results := [.lit (.bool false)], args := [d] }
  | _ => none }
def FnExactErrTextWrongFalsely : Prop := fnExactErrTextRow.holds Try.pinned (OpenSpec.ofChange fnExactErrTextWrong)

/- THE SECOND FORM. 'bulk': how many values and letters a reading holds, each counted each time it is reached (what is shared counts as often as it is met; a slice's spare places count too). A statement '..UptoSaid' is the law's where the arguments, and the package variables that the reading takes, are together of bulk at most 1048576: NARROWER than '..Said'. Prove '..Said' where nothing that the law and all that it calls make is longer than what came in: it says more and counts as full. Else prove '..UptoSaid'. A law counts once. -/
mutual
def uptoBulk {H : Type} : DataW H → Nat
  | .lit (.string bytes) => bytes.length + 1
  | .lit _ => 1
  | .nil => 1
  | .ptr d => uptoBulk d + 1
  | .slice elems spare => uptoBulkAll elems + uptoBulkAll spare + 1
  | .agg parts => uptoBulkAll parts + 1
  | .iface _ d => uptoBulk d + 1
  | .map entries => uptoBulkEntries entries + 1
  | .held _ => 1
def uptoBulkAll {H : Type} : List (DataW H) → Nat
  | [] => 0
  | d :: r => uptoBulk d + uptoBulkAll r
def uptoBulkEntries {H : Type} : List (Lit × DataW H) → Nat
  | [] => 0
  | x :: r => uptoBulkEntry x + uptoBulkEntries r
def uptoBulkEntry {H : Type} : Lit × DataW H → Nat
  | (.string bytes, d) => bytes.length + uptoBulk d + 1
  | (_, d) => uptoBulk d + 1
 end
def uptoSmall : (H : Type) → List (DataW H) → Bool := fun _ ds => decide (uptoBulkAll ds ≤ 1048576)
def OpenSpec.upto (s : _root_.Go.ChangeSpec) : _root_.Go.OpenSpec := { _root_.Go.OpenSpec.ofChange s with cond := some uptoSmall }

/-- 'laws.FnExactReadPuny', WHERE WHAT IT READS IS OF BULK AT MOST 1048576: true; the input reads as it did. -/
def fnExactReadPunyUptoRow : OpenClaim := { program := "ytjpdllhhganbpaa", sum := "face613448aaf1f5941c3dff4101bc0f0aebb666ab349b367c92be318ef937c0", func := "loop.example/g00148/laws.FnExactReadPuny", spec := "fnExactReadPuny", inPlace := ["slices.overlaps[int]"], apart := false, narrowed := true }
def FnExactReadPunyUptoSaid : Prop := fnExactReadPunyUptoRow.holds Try.pinned (OpenSpec.upto fnExactReadPunySpec)

/-- 'laws.FnPuny', WHERE WHAT IT READS IS OF BULK AT MOST 1048576: true; the input reads as it did. -/
def fnPunyUptoRow : OpenClaim := { program := "ytjpdllhhganbpaa", sum := "face613448aaf1f5941c3dff4101bc0f0aebb666ab349b367c92be318ef937c0", func := "loop.example/g00148/laws.FnPuny", spec := "fnPuny", inPlace := ["slices.overlaps[int]"], apart := false, narrowed := true }
def FnPunyUptoSaid : Prop := fnPunyUptoRow.holds Try.pinned (OpenSpec.upto fnPunySpec)

/-- 'laws.FnExactErrText', WHERE WHAT IT READS IS OF BULK AT MOST 1048576: true; the input reads as it did. -/
def fnExactErrTextUptoRow : OpenClaim := { program := "ytjpdllhhganbpaa", sum := "face613448aaf1f5941c3dff4101bc0f0aebb666ab349b367c92be318ef937c0", func := "loop.example/g00148/laws.FnExactErrText", spec := "fnExactErrText", apart := false, narrowed := true }
def FnExactErrTextUptoSaid : Prop := fnExactErrTextUptoRow.holds Try.pinned (OpenSpec.upto fnExactErrTextSpec)

end Rows
end Go.Proofs.Ytjpdllhhganbpaa
