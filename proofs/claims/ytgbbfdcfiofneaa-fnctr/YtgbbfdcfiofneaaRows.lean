/-
  No cell of these rows narrows 'for every input' (looked for: loops, veiled, ifaces, maps, wideKeys, modest, calm, conditions, laid).
  DERIVED. THE GIVEN ROWS OF THIS SEAT. 5 by the template 'for every input the law returns true; each argument reads behind the call as it read before'; 0 by the template 'total and deterministic' (their statements: YtgbbfdcfiofneaaTotals.lean).
  GIVEN WITH THE SEED: the statements are not yours to turn. If you find one false, say at which input.
  Laid BY PROGRAM, IN A SANDBOX (cutbox-rows.mjs): the forced cells as the released guide's own fill.sh prints them over the translation 5be7c61415ab5d73… (all of the seat's roots in one cut). By AI agents, Wed Nov 11 2026. No macro, syntax, notation, axiom, sorry.
-/
import Derived.Test.YtgbbfdcfiofneaaChecked
import GoSem.Claim
import GoSem.ClaimJoined
import GoSem.ClaimMapViews
import Derived.JoinedTies
import Derived.KernelRfl
namespace Go.Proofs.Ytgbbfdcfiofneaa
/- THE CELL 'sum', in the pinned program and in every row, IS THE sha256 OF THE DUMP (.gsa) THAT YtgbbfdcfiofneaaProg.lean LOADS. Nothing in Lean hashes anything: it is a label: what it is worth is what the hold of that sum in a sandbox is worth. -/
noncomputable def Try.pinned : Pinned := { name := "ytgbbfdcfiofneaa", sum := "5be7c61415ab5d73ac095f83ce209f032de51f2a16e153f4a961026eba8c4cf0", checked := Try.checked }
namespace Rows
def none {H : Type} : Left H := { results := [], args := [] }

/-- 'laws.FnCtr': WHATEVER THE INPUT: true; the input reads as it did. -/
def fnCtrSpec : ChangeSpec := { name := "fnCtr", fn := fun _ => fun
  | [d1, d2] => { results := [.lit (.bool true)], args := [d1, d2] }
  | _ => none }
def fnCtrRow : OpenClaim := { program := "ytgbbfdcfiofneaa", sum := "5be7c61415ab5d73ac095f83ce209f032de51f2a16e153f4a961026eba8c4cf0", func := "loop.example/g00320/laws.FnCtr", spec := "fnCtr", apart := false }
def FnCtrSaid : Prop := fnCtrRow.holds Try.pinned (OpenSpec.ofChange fnCtrSpec)

/-- ITS FALSE NEIGHBOUR: 'it returns false'. Refute it at one input. -/
def fnCtrWrong : ChangeSpec := { name := "fnCtr", fn := fun _ => fun
  | [d1, d2] => { results := [.lit (.bool false)], args := [d1, d2] }
  | _ => none }
def FnCtrWrongFalsely : Prop := fnCtrRow.holds Try.pinned (OpenSpec.ofChange fnCtrWrong)

/-- 'laws.FnExactAesKeys': WHATEVER THE INPUT: true; the input reads as it did. -/
def fnExactAesKeysSpec : ChangeSpec := { name := "fnExactAesKeys", fn := fun _ => fun
  | [d] => { results := [.lit (.bool true)], args := [d] }
  | _ => none }
def fnExactAesKeysRow : OpenClaim := { program := "ytgbbfdcfiofneaa", sum := "5be7c61415ab5d73ac095f83ce209f032de51f2a16e153f4a961026eba8c4cf0", func := "loop.example/g00320/laws.FnExactAesKeys", spec := "fnExactAesKeys", apart := false }
def FnExactAesKeysSaid : Prop := fnExactAesKeysRow.holds Try.pinned (OpenSpec.ofChange fnExactAesKeysSpec)

/-- ITS FALSE NEIGHBOUR: 'it returns false'. Refute it at one input. -/
def fnExactAesKeysWrong : ChangeSpec := { name := "fnExactAesKeys", fn := fun _ => fun
  | [d] => { results := [.lit (.bool false)], args := [d] }
  | _ => none }
def FnExactAesKeysWrongFalsely : Prop := fnExactAesKeysRow.holds Try.pinned (OpenSpec.ofChange fnExactAesKeysWrong)

/-- 'laws.FnExactAesBlock': WHATEVER THE INPUT: true; the input reads as it did. -/
def fnExactAesBlockSpec : ChangeSpec := { name := "fnExactAesBlock", fn := fun _ => fun
  | [d1, d2] => { results := [.lit (.bool true)], args := [d1, d2] }
  | _ => none }
def fnExactAesBlockRow : OpenClaim := { program := "ytgbbfdcfiofneaa", sum := "5be7c61415ab5d73ac095f83ce209f032de51f2a16e153f4a961026eba8c4cf0", func := "loop.example/g00320/laws.FnExactAesBlock", spec := "fnExactAesBlock", apart := false }
def FnExactAesBlockSaid : Prop := fnExactAesBlockRow.holds Try.pinned (OpenSpec.ofChange fnExactAesBlockSpec)

/-- ITS FALSE NEIGHBOUR: 'it returns false'. Refute it at one input. -/
def fnExactAesBlockWrong : ChangeSpec := { name := "fnExactAesBlock", fn := fun _ => fun
  | [d1, d2] => { results := [.lit (.bool false)], args := [d1, d2] }
  | _ => none }
def FnExactAesBlockWrongFalsely : Prop := fnExactAesBlockRow.holds Try.pinned (OpenSpec.ofChange fnExactAesBlockWrong)

/-- 'laws.FnExactCtr': WHATEVER THE INPUT: true; the input reads as it did. -/
def fnExactCtrSpec : ChangeSpec := { name := "fnExactCtr", fn := fun _ => fun
  | [d1, d2, d3] => { results := [.lit (.bool true)], args := [d1, d2, d3] }
  | _ => none }
def fnExactCtrRow : OpenClaim := { program := "ytgbbfdcfiofneaa", sum := "5be7c61415ab5d73ac095f83ce209f032de51f2a16e153f4a961026eba8c4cf0", func := "loop.example/g00320/laws.FnExactCtr", spec := "fnExactCtr", apart := false }
def FnExactCtrSaid : Prop := fnExactCtrRow.holds Try.pinned (OpenSpec.ofChange fnExactCtrSpec)

/-- ITS FALSE NEIGHBOUR: 'it returns false'. Refute it at one input. -/
def fnExactCtrWrong : ChangeSpec := { name := "fnExactCtr", fn := fun _ => fun
  | [d1, d2, d3] => { results := [.lit (.bool false)], args := [d1, d2, d3] }
  | _ => none }
def FnExactCtrWrongFalsely : Prop := fnExactCtrRow.holds Try.pinned (OpenSpec.ofChange fnExactCtrWrong)

/-- 'laws.FnExactSboxOf': WHATEVER THE INPUT: true; the input reads as it did. -/
def fnExactSboxOfSpec : ChangeSpec := { name := "fnExactSboxOf", fn := fun _ => fun
  | [d] => { results := [.lit (.bool true)], args := [d] }
  | _ => none }
def fnExactSboxOfRow : OpenClaim := { program := "ytgbbfdcfiofneaa", sum := "5be7c61415ab5d73ac095f83ce209f032de51f2a16e153f4a961026eba8c4cf0", func := "loop.example/g00320/laws.FnExactSboxOf", spec := "fnExactSboxOf", apart := false }
def FnExactSboxOfSaid : Prop := fnExactSboxOfRow.holds Try.pinned (OpenSpec.ofChange fnExactSboxOfSpec)

/-- ITS FALSE NEIGHBOUR: 'it returns false'. Refute it at one input. -/
def fnExactSboxOfWrong : ChangeSpec := { name := "fnExactSboxOf", fn := fun _ => fun
  | [d] => { results := [.lit (.bool false)], args := [d] }
  | _ => none }
def FnExactSboxOfWrongFalsely : Prop := fnExactSboxOfRow.holds Try.pinned (OpenSpec.ofChange fnExactSboxOfWrong)

/- THE SECOND FORM. 'bulk': how many values and letters a reading holds, each counted each time it is reached (what is shared counts as often as it is met; a slice's spare places count too). A statement '..UptoSaid' is the law's where the arguments, and the package variables that the reading takes, are together of bulk at most 1048576: NARROWER than '..Said'. Prove '..Said' where nothing that the law and all that it calls make is longer than what came in: it says more and counts as full. Else prove '..UptoSaid'. A law counts once. -/
mutual
def uptoBulk {H : Type} : DataW H → Nat
  | .lit (.string bytes) => bytes.length + 1
  | .lit _ => 1
  | .nil => 1
  | .ptr d => uptoBulk d + 1
  | .slice elems spare => uptoBulkAll elems + uptoBulkAll spare + 1
  | .agg parts => uptoBulkAll parts + 1
  | .iface _ d => uptoBulk d + 1
  | .map entries => uptoBulkEntries entries + 1
  | .held _ => 1
def uptoBulkAll {H : Type} : List (DataW H) → Nat
  | [] => 0
  | d :: r => uptoBulk d + uptoBulkAll r
def uptoBulkEntries {H : Type} : List (Lit × DataW H) → Nat
  | [] => 0
  | x :: r => uptoBulkEntry x + uptoBulkEntries r
def uptoBulkEntry {H : Type} : Lit × DataW H → Nat
  | (.string bytes, d) => bytes.length + uptoBulk d + 1
  | (_, d) => uptoBulk d + 1
 end
def uptoSmall : (H : Type) → List (DataW H) → Bool := fun _ ds => decide (uptoBulkAll ds ≤ 1048576)
def OpenSpec.upto (s : _root_.Go.ChangeSpec) : _root_.Go.OpenSpec := { _root_.Go.OpenSpec.ofChange s with cond := some uptoSmall }

/-- 'laws.FnCtr', WHERE WHAT IT READS IS OF BULK AT MOST 1048576: true; the input reads as it did. -/
def fnCtrUptoRow : OpenClaim := { program := "ytgbbfdcfiofneaa", sum := "5be7c61415ab5d73ac095f83ce209f032de51f2a16e153f4a961026eba8c4cf0", func := "loop.example/g00320/laws.FnCtr", spec := "fnCtr", apart := false, narrowed := true }
def FnCtrUptoSaid : Prop := fnCtrUptoRow.holds Try.pinned (OpenSpec.upto fnCtrSpec)

/-- 'laws.FnExactAesKeys', WHERE WHAT IT READS IS OF BULK AT MOST 1048576: true; the input reads as it did. -/
def fnExactAesKeysUptoRow : OpenClaim := { program := "ytgbbfdcfiofneaa", sum := "5be7c61415ab5d73ac095f83ce209f032de51f2a16e153f4a961026eba8c4cf0", func := "loop.example/g00320/laws.FnExactAesKeys", spec := "fnExactAesKeys", apart := false, narrowed := true }
def FnExactAesKeysUptoSaid : Prop := fnExactAesKeysUptoRow.holds Try.pinned (OpenSpec.upto fnExactAesKeysSpec)

/-- 'laws.FnExactAesBlock', WHERE WHAT IT READS IS OF BULK AT MOST 1048576: true; the input reads as it did. -/
def fnExactAesBlockUptoRow : OpenClaim := { program := "ytgbbfdcfiofneaa", sum := "5be7c61415ab5d73ac095f83ce209f032de51f2a16e153f4a961026eba8c4cf0", func := "loop.example/g00320/laws.FnExactAesBlock", spec := "fnExactAesBlock", apart := false, narrowed := true }
def FnExactAesBlockUptoSaid : Prop := fnExactAesBlockUptoRow.holds Try.pinned (OpenSpec.upto fnExactAesBlockSpec)

/-- 'laws.FnExactCtr', WHERE WHAT IT READS IS OF BULK AT MOST 1048576: true; the input reads as it did. -/
def fnExactCtrUptoRow : OpenClaim := { program := "ytgbbfdcfiofneaa", sum := "5be7c61415ab5d73ac095f83ce209f032de51f2a16e153f4a961026eba8c4cf0", func := "loop.example/g00320/laws.FnExactCtr", spec := "fnExactCtr", apart := false, narrowed := true }
def FnExactCtrUptoSaid : Prop := fnExactCtrUptoRow.holds Try.pinned (OpenSpec.upto fnExactCtrSpec)

/-- 'laws.FnExactSboxOf', WHERE WHAT IT READS IS OF BULK AT MOST 1048576: true; the input reads as it did. -/
def fnExactSboxOfUptoRow : OpenClaim := { program := "ytgbbfdcfiofneaa", sum := "5be7c61415ab5d73ac095f83ce209f032de51f2a16e153f4a961026eba8c4cf0", func := "loop.example/g00320/laws.FnExactSboxOf", spec := "fnExactSboxOf", apart := false, narrowed := true }
def FnExactSboxOfUptoSaid : Prop := fnExactSboxOfUptoRow.holds Try.pinned (OpenSpec.upto fnExactSboxOfSpec)

end Rows
end Go.Proofs.Ytgbbfdcfiofneaa
