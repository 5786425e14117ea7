/-
  No cell of these rows narrows 'for every input' (looked for: loops, veiled, ifaces, maps, wideKeys, modest, calm, conditions, laid).
  DERIVED. THE GIVEN ROWS OF THIS SEAT. 6 by the template 'for every input the law returns true; each argument reads behind the call as it read before'; 0 by the template 'total and deterministic' (their statements: YtipeelkmmjgehaaTotals.lean).
  GIVEN WITH THE SEED: the statements are not yours to turn. If you find one false, say at which input.
  Laid BY PROGRAM, IN A SANDBOX (cutbox-rows.mjs): the forced cells as the released guide's own fill.sh prints them over the translation 84f16bd2b02cbfe4… (all of the seat's roots in one cut). By AI agents, Wed Nov 11 2026. No macro, syntax, notation, axiom, sorry.
-/
import Derived.Test.YtipeelkmmjgehaaChecked
import GoSem.Claim
import GoSem.ClaimJoined
import GoSem.ClaimMapViews
import Derived.JoinedTies
import Derived.KernelRfl
namespace Go.Proofs.Ytipeelkmmjgehaa
/- THE CELL 'sum', in the pinned program and in every row, IS THE sha256 OF THE DUMP (.gsa) THAT YtipeelkmmjgehaaProg.lean LOADS. Nothing in Lean hashes anything: it is a label: what it is worth is what the hold of that sum in a sandbox is worth. -/
noncomputable def Try.pinned : Pinned := { name := "ytipeelkmmjgehaa", sum := "84f16bd2b02cbfe411d9bd7d2346125cc44ae907aa080f8a3d3882b64d2e0388", checked := Try.checked }
namespace Rows
def none {H : Type} : Left H := { results := [], args := [] }

/-- 'laws.FnExtent': WHATEVER THE INPUT: true; the input reads as it did. -/
def fnExtentSpec : ChangeSpec := { name := "fnExtent", fn := fun _ => fun
  | [d1, d2] => { results := [.lit (.bool true)], args := [d1, d2] }
  | _ => none }
def fnExtentRow : OpenClaim := { program := "ytipeelkmmjgehaa", sum := "84f16bd2b02cbfe411d9bd7d2346125cc44ae907aa080f8a3d3882b64d2e0388", func := "loop.example/g00320/laws.FnExtent", spec := "fnExtent", unfollowed := true, recurses := true, apart := false }
def FnExtentSaid : Prop := fnExtentRow.holds Try.pinned (OpenSpec.ofChange fnExtentSpec)

/-- ITS FALSE NEIGHBOUR: 'it returns false'. Refute it at one input. -/
def fnExtentWrong : ChangeSpec := { name := "fnExtent", fn := fun _ => fun
  | [d1, d2] => { results := [.lit (.bool false)], args := [d1, d2] }
  | _ => none }
def FnExtentWrongFalsely : Prop := fnExtentRow.holds Try.pinned (OpenSpec.ofChange fnExtentWrong)

/-- 'laws.FnExactSectorsOf': WHATEVER THE INPUT: true; the input reads as it did. -/
def fnExactSectorsOfSpec : ChangeSpec := { name := "fnExactSectorsOf", fn := fun _ => fun
  | [d] => { results := [.lit (.bool true)], args := [d] }
  | _ => none }
def fnExactSectorsOfRow : OpenClaim := { program := "ytipeelkmmjgehaa", sum := "84f16bd2b02cbfe411d9bd7d2346125cc44ae907aa080f8a3d3882b64d2e0388", func := "loop.example/g00320/laws.FnExactSectorsOf", spec := "fnExactSectorsOf", apart := false }
def FnExactSectorsOfSaid : Prop := fnExactSectorsOfRow.holds Try.pinned (OpenSpec.ofChange fnExactSectorsOfSpec)

/-- ITS FALSE NEIGHBOUR: 'it returns false'. Refute it at one input. -/
def fnExactSectorsOfWrong : ChangeSpec := { name := "fnExactSectorsOf", fn := fun _ => fun
  | [d] => { results := [.lit (.bool false)], args := [d] }
  | _ => none }
def FnExactSectorsOfWrongFalsely : Prop := fnExactSectorsOfRow.holds Try.pinned (OpenSpec.ofChange fnExactSectorsOfWrong)

/-- 'laws.FnExactExtentRight': WHATEVER THE INPUT: true; the input reads as it did. -/
def fnExactExtentRightSpec : ChangeSpec := { name := "fnExactExtentRight", fn := fun _ => fun
  | [d1, d2] => { results := [.lit (.bool true)], args := [d1, d2] }
  | _ => none }
def fnExactExtentRightRow : OpenClaim := { program := "ytipeelkmmjgehaa", sum := "84f16bd2b02cbfe411d9bd7d2346125cc44ae907aa080f8a3d3882b64d2e0388", func := "loop.example/g00320/laws.FnExactExtentRight", spec := "fnExactExtentRight", apart := false }
def FnExactExtentRightSaid : Prop := fnExactExtentRightRow.holds Try.pinned (OpenSpec.ofChange fnExactExtentRightSpec)

/-- ITS FALSE NEIGHBOUR: 'it returns false'. Refute it at one input. -/
def fnExactExtentRightWrong : ChangeSpec := { name := "fnExactExtentRight", fn := fun _ => fun
  | [d1, d2] => { results := [.lit (.bool false)], args := [d1, d2] }
  | _ => none }
def FnExactExtentRightWrongFalsely : Prop := fnExactExtentRightRow.holds Try.pinned (OpenSpec.ofChange fnExactExtentRightWrong)

/-- 'laws.FnExactExtentWrite': WHATEVER THE INPUT: true; the input reads as it did. -/
def fnExactExtentWriteSpec : ChangeSpec := { name := "fnExactExtentWrite", fn := fun _ => fun
  | [d1, d2, d3] => { results := [.lit (.bool true)], args := [d1, d2, d3] }
  | _ => none }
def fnExactExtentWriteRow : OpenClaim := { program := "ytipeelkmmjgehaa", sum := "84f16bd2b02cbfe411d9bd7d2346125cc44ae907aa080f8a3d3882b64d2e0388", func := "loop.example/g00320/laws.FnExactExtentWrite", spec := "fnExactExtentWrite", apart := false }
def FnExactExtentWriteSaid : Prop := fnExactExtentWriteRow.holds Try.pinned (OpenSpec.ofChange fnExactExtentWriteSpec)

/-- ITS FALSE NEIGHBOUR: 'it returns false'. Refute it at one input. -/
def fnExactExtentWriteWrong : ChangeSpec := { name := "fnExactExtentWrite", fn := fun _ => fun
  | [d1, d2, d3] => { results := [.lit (.bool false)], args := [d1, d2, d3] }
  | _ => none }
def FnExactExtentWriteWrongFalsely : Prop := fnExactExtentWriteRow.holds Try.pinned (OpenSpec.ofChange fnExactExtentWriteWrong)

/-- 'laws.FnExactExtentPatch': WHATEVER THE INPUT: true; the input reads as it did. -/
def fnExactExtentPatchSpec : ChangeSpec := { name := "fnExactExtentPatch", fn := fun _ => fun
  | [d1, d2, d3] => { results := [.lit (.bool true)], args := [d1, d2, d3] }
  | _ => none }
def fnExactExtentPatchRow : OpenClaim := { program := "ytipeelkmmjgehaa", sum := "84f16bd2b02cbfe411d9bd7d2346125cc44ae907aa080f8a3d3882b64d2e0388", func := "loop.example/g00320/laws.FnExactExtentPatch", spec := "fnExactExtentPatch", unfollowed := true, recurses := true, apart := false }
def FnExactExtentPatchSaid : Prop := fnExactExtentPatchRow.holds Try.pinned (OpenSpec.ofChange fnExactExtentPatchSpec)

/-- ITS FALSE NEIGHBOUR: 'it returns false'. Refute it at one input. -/
def fnExactExtentPatchWrong : ChangeSpec := { name := "fnExactExtentPatch", fn := fun _ => fun
  | [d1, d2, d3] => { results := [.lit (.bool false)], args := [d1, d2, d3] }
  | _ => none }
def FnExactExtentPatchWrongFalsely : Prop := fnExactExtentPatchRow.holds Try.pinned (OpenSpec.ofChange fnExactExtentPatchWrong)

/-- 'laws.FnExactExtentRead': WHATEVER THE INPUT: true; the input reads as it did. -/
def fnExactExtentReadSpec : ChangeSpec := { name := "fnExactExtentRead", fn := fun _ => fun
  | [d1, d2] => { results := [.lit (.bool true)], args := [d1, d2] }
  | _ => none }
def fnExactExtentReadRow : OpenClaim := { program := "ytipeelkmmjgehaa", sum := "84f16bd2b02cbfe411d9bd7d2346125cc44ae907aa080f8a3d3882b64d2e0388", func := "loop.example/g00320/laws.FnExactExtentRead", spec := "fnExactExtentRead", unfollowed := true, recurses := true, apart := false }
def FnExactExtentReadSaid : Prop := fnExactExtentReadRow.holds Try.pinned (OpenSpec.ofChange fnExactExtentReadSpec)

/-- ITS FALSE NEIGHBOUR: 'it returns false'. Refute it at one input. -/
def fnExactExtentReadWrong : ChangeSpec := { name := "fnExactExtentRead", fn := fun _ => fun
  | [d1, d2] => { results := [.lit (.bool false)], args := [d1, d2] }
  | _ => none }
def FnExactExtentReadWrongFalsely : Prop := fnExactExtentReadRow.holds Try.pinned (OpenSpec.ofChange fnExactExtentReadWrong)

/- THE SECOND FORM. 'bulk': how many values and letters a reading holds, each counted each time it is reached (what is shared counts as often as it is met; a slice's spare places count too). A statement '..UptoSaid' is the law's where the arguments, and the package variables that the reading takes, are together of bulk at most 1048576: NARROWER than '..Said'. Prove '..Said' where nothing that the law and all that it calls make is longer than what came in: it says more and counts as full. Else prove '..UptoSaid'. A law counts once. -/
mutual
def uptoBulk {H : Type} : DataW H → Nat
  | .lit (.string bytes) => bytes.length + 1
  | .lit _ => 1
  | .nil => 1
  | .ptr d => uptoBulk d + 1
  | .slice elems spare => uptoBulkAll elems + uptoBulkAll spare + 1
  | .agg parts => uptoBulkAll parts + 1
  | .iface _ d => uptoBulk d + 1
  | .map entries => uptoBulkEntries entries + 1
  | .held _ => 1
def uptoBulkAll {H : Type} : List (DataW H) → Nat
  | [] => 0
  | d :: r => uptoBulk d + uptoBulkAll r
def uptoBulkEntries {H : Type} : List (Lit × DataW H) → Nat
  | [] => 0
  | x :: r => uptoBulkEntry x + uptoBulkEntries r
def uptoBulkEntry {H : Type} : Lit × DataW H → Nat
  | (.string bytes, d) => bytes.length + uptoBulk d + 1
  | (_, d) => uptoBulk d + 1
 end
def uptoSmall : (H : Type) → List (DataW H) → Bool := fun _ ds => decide (uptoBulkAll ds ≤ 1048576)
def OpenSpec.upto (s : _root_.Go.ChangeSpec) : _root_.Go.OpenSpec := { _root_.Go.OpenSpec.ofChange s with cond := some uptoSmall }

/-- 'laws.FnExtent', WHERE WHAT IT READS IS OF BULK AT MOST 1048576: true; the input reads as it did. -/
def fnExtentUptoRow : OpenClaim := { program := "ytipeelkmmjgehaa", sum := "84f16bd2b02cbfe411d9bd7d2346125cc44ae907aa080f8a3d3882b64d2e0388", func := "loop.example/g00320/laws.FnExtent", spec := "fnExtent", unfollowed := true, recurses := true, apart := false, narrowed := true }
def FnExtentUptoSaid : Prop := fnExtentUptoRow.holds Try.pinned (OpenSpec.upto fnExtentSpec)

/-- 'laws.FnExactSectorsOf', WHERE WHAT IT READS IS OF BULK AT MOST 1048576: true; the input reads as it did. -/
def fnExactSectorsOfUptoRow : OpenClaim := { program := "ytipeelkmmjgehaa", sum := "84f16bd2b02cbfe411d9bd7d2346125cc44ae907aa080f8a3d3882b64d2e0388", func := "loop.example/g00320/laws.FnExactSectorsOf", spec := "fnExactSectorsOf", apart := false, narrowed := true }
def FnExactSectorsOfUptoSaid : Prop := fnExactSectorsOfUptoRow.holds Try.pinned (OpenSpec.upto fnExactSectorsOfSpec)

/-- 'laws.FnExactExtentRight', WHERE WHAT IT READS IS OF BULK AT MOST 1048576: true; the input reads as it did. -/
def fnExactExtentRightUptoRow : OpenClaim := { program := "ytipeelkmmjgehaa", sum := "84f16bd2b02cbfe411d9bd7d2346125cc44ae907aa080f8a3d3882b64d2e0388", func := "loop.example/g00320/laws.FnExactExtentRight", spec := "fnExactExtentRight", apart := false, narrowed := true }
def FnExactExtentRightUptoSaid : Prop := fnExactExtentRightUptoRow.holds Try.pinned (OpenSpec.upto fnExactExtentRightSpec)

/-- 'laws.FnExactExtentWrite', WHERE WHAT IT READS IS OF BULK AT MOST 1048576: true; the input reads as it did. -/
def fnExactExtentWriteUptoRow : OpenClaim := { program := "ytipeelkmmjgehaa", sum := "84f16bd2b02cbfe411d9bd7d2346125cc44ae907aa080f8a3d3882b64d2e0388", func := "loop.example/g00320/laws.FnExactExtentWrite", spec := "fnExactExtentWrite", apart := false, narrowed := true }
def FnExactExtentWriteUptoSaid : Prop := fnExactExtentWriteUptoRow.holds Try.pinned (OpenSpec.upto fnExactExtentWriteSpec)

/-- 'laws.FnExactExtentPatch', WHERE WHAT IT READS IS OF BULK AT MOST 1048576: true; the input reads as it did. -/
def fnExactExtentPatchUptoRow : OpenClaim := { program := "ytipeelkmmjgehaa", sum := "84f16bd2b02cbfe411d9bd7d2346125cc44ae907aa080f8a3d3882b64d2e0388", func := "loop.example/g00320/laws.FnExactExtentPatch", spec := "fnExactExtentPatch", unfollowed := true, recurses := true, apart := false, narrowed := true }
def FnExactExtentPatchUptoSaid : Prop := fnExactExtentPatchUptoRow.holds Try.pinned (OpenSpec.upto fnExactExtentPatchSpec)

/-- 'laws.FnExactExtentRead', WHERE WHAT IT READS IS OF BULK AT MOST 1048576: true; the input reads as it did. -/
def fnExactExtentReadUptoRow : OpenClaim := { program := "ytipeelkmmjgehaa", sum := "84f16bd2b02cbfe411d9bd7d2346125cc44ae907aa080f8a3d3882b64d2e0388", func := "loop.example/g00320/laws.FnExactExtentRead", spec := "fnExactExtentRead", unfollowed := true, recurses := true, apart := false, narrowed := true }
def FnExactExtentReadUptoSaid : Prop := fnExactExtentReadUptoRow.holds Try.pinned (OpenSpec.upto fnExactExtentReadSpec)

end Rows
end Go.Proofs.Ytipeelkmmjgehaa
