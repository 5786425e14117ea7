/-
  No cell of these rows narrows 'for every input' (looked for: loops, veiled, ifaces, maps, wideKeys, modest, calm, conditions, laid).
  DERIVED. THE GIVEN ROWS OF THIS SEAT. 5 by the template 'for every input the law returns true; each argument reads behind the call as it read before'; 0 by the template 'total and deterministic' (their statements: YtdoodkabmeojmaaTotals.lean).
  GIVEN WITH THE SEED: the statements are not yours to turn. If you find one false, say at which input.
  Laid BY PROGRAM, IN A SANDBOX (cutbox-rows.mjs): the forced cells as the released guide's own fill.sh prints them over the translation fb1738b254c4f104… (all of the seat's roots in one cut). By AI agents, Wed Nov 11 2026. No macro, syntax, notation, axiom, sorry.
-/
import Derived.Test.YtdoodkabmeojmaaChecked
import GoSem.Claim
import GoSem.ClaimJoined
import GoSem.ClaimMapViews
import Derived.JoinedTies
import Derived.KernelRfl
namespace Go.Proofs.Ytdoodkabmeojmaa
/- THE CELL 'sum', in the pinned program and in every row, IS THE sha256 OF THE DUMP (.gsa) THAT YtdoodkabmeojmaaProg.lean LOADS. Nothing in Lean hashes anything: it is a label: what it is worth is what the hold of that sum in a sandbox is worth. -/
noncomputable def Try.pinned : Pinned := { name := "ytdoodkabmeojmaa", sum := "fb1738b254c4f1044e3ca2f3f27eacdb2b65bf0f6100cb6772ca63359b5a0934", checked := Try.checked }
namespace Rows
def none {H : Type} : Left H := { results := [], args := [] }

/-- 'laws.FnRange': WHATEVER THE INPUT: true; the input reads as it did. -/
def fnRangeSpec : ChangeSpec := { name := "fnRange", fn := fun _ => fun
  | [d1, d2] => { results := [.lit (.bool true)], args := [d1, d2] }
  | _ => none }
def fnRangeRow : OpenClaim := { program := "ytdoodkabmeojmaa", sum := "fb1738b254c4f1044e3ca2f3f27eacdb2b65bf0f6100cb6772ca63359b5a0934", func := "loop.example/g00320/laws.FnRange", spec := "fnRange", unfollowed := true, recurses := true, plainKeys := false, apart := false }
def FnRangeSaid : Prop := fnRangeRow.holds Try.pinned (OpenSpec.ofChange fnRangeSpec)

/-- ITS FALSE NEIGHBOUR: 'it returns false'. Refute it at one input. -/
def fnRangeWrong : ChangeSpec := { name := "fnRange", fn := fun _ => fun
  | [d1, d2] => { results := [.lit (.bool false)], args := [d1, d2] }
  | _ => none }
def FnRangeWrongFalsely : Prop := fnRangeRow.holds Try.pinned (OpenSpec.ofChange fnRangeWrong)

/-- 'laws.FnMatch': WHATEVER THE INPUT: true; the input reads as it did. -/
def fnMatchSpec : ChangeSpec := { name := "fnMatch", fn := fun _ => fun
  | [d1, d2] => { results := [.lit (.bool true)], args := [d1, d2] }
  | _ => none }
def fnMatchRow : OpenClaim := { program := "ytdoodkabmeojmaa", sum := "fb1738b254c4f1044e3ca2f3f27eacdb2b65bf0f6100cb6772ca63359b5a0934", func := "loop.example/g00320/laws.FnMatch", spec := "fnMatch", unfollowed := true, recurses := true, plainKeys := false, apart := false }
def FnMatchSaid : Prop := fnMatchRow.holds Try.pinned (OpenSpec.ofChange fnMatchSpec)

/-- ITS FALSE NEIGHBOUR: 'it returns false'. Refute it at one input. -/
def fnMatchWrong : ChangeSpec := { name := "fnMatch", fn := fun _ => fun
  | [d1, d2] => { results := [.lit (.bool false)], args := [d1, d2] }
  | _ => none }
def FnMatchWrongFalsely : Prop := fnMatchRow.holds Try.pinned (OpenSpec.ofChange fnMatchWrong)

/-- 'laws.FnExactRangeEncode': WHATEVER THE INPUT: true; the input reads as it did. -/
def fnExactRangeEncodeSpec : ChangeSpec := { name := "fnExactRangeEncode", fn := fun _ => fun
  | [d] => { results := [.lit (.bool true)], args := [d] }
  | _ => none }
def fnExactRangeEncodeRow : OpenClaim := { program := "ytdoodkabmeojmaa", sum := "fb1738b254c4f1044e3ca2f3f27eacdb2b65bf0f6100cb6772ca63359b5a0934", func := "loop.example/g00320/laws.FnExactRangeEncode", spec := "fnExactRangeEncode", unfollowed := true, recurses := true, plainKeys := false, apart := false }
def FnExactRangeEncodeSaid : Prop := fnExactRangeEncodeRow.holds Try.pinned (OpenSpec.ofChange fnExactRangeEncodeSpec)

/-- ITS FALSE NEIGHBOUR: 'it returns false'. Refute it at one input. -/
def fnExactRangeEncodeWrong : ChangeSpec := { name := "fnExactRangeEncode", fn := fun _ => fun
  | [d] => { results := [.lit (.bool false)], args := [d] }
  | _ => none }
def FnExactRangeEncodeWrongFalsely : Prop := fnExactRangeEncodeRow.holds Try.pinned (OpenSpec.ofChange fnExactRangeEncodeWrong)

/-- 'laws.FnExactParse': WHATEVER THE INPUT: true; the input reads as it did. -/
def fnExactParseSpec : ChangeSpec := { name := "fnExactParse", fn := fun _ => fun
  | [d] => { results := [.lit (.bool true)], args := [d] }
  | _ => none }
def fnExactParseRow : OpenClaim := { program := "ytdoodkabmeojmaa", sum := "fb1738b254c4f1044e3ca2f3f27eacdb2b65bf0f6100cb6772ca63359b5a0934", func := "loop.example/g00320/laws.FnExactParse", spec := "fnExactParse", unfollowed := true, recurses := true, plainKeys := false, apart := false }
def FnExactParseSaid : Prop := fnExactParseRow.holds Try.pinned (OpenSpec.ofChange fnExactParseSpec)

/-- ITS FALSE NEIGHBOUR: 'it returns false'. Refute it at one input. -/
def fnExactParseWrong : ChangeSpec := { name := "fnExactParse", fn := fun _ => fun
  | [d] => { results := [.lit (.bool false)], args := [d] }
  | _ => none }
def FnExactParseWrongFalsely : Prop := fnExactParseRow.holds Try.pinned (OpenSpec.ofChange fnExactParseWrong)

/-- 'laws.FnExactPack': WHATEVER THE INPUT: true; the input reads as it did. -/
def fnExactPackSpec : ChangeSpec := { name := "fnExactPack", fn := fun _ => fun
  | [d] => { results := [.lit (.bool true)], args := [d] }
  | _ => none }
def fnExactPackRow : OpenClaim := { program := "ytdoodkabmeojmaa", sum := "fb1738b254c4f1044e3ca2f3f27eacdb2b65bf0f6100cb6772ca63359b5a0934", func := "loop.example/g00320/laws.FnExactPack", spec := "fnExactPack", unfollowed := true, recurses := true, plainKeys := false, apart := false }
def FnExactPackSaid : Prop := fnExactPackRow.holds Try.pinned (OpenSpec.ofChange fnExactPackSpec)

/-- ITS FALSE NEIGHBOUR: 'it returns false'. Refute it at one input. -/
def fnExactPackWrong : ChangeSpec := { name := "fnExactPack", fn := fun _ => fun
  | [d] => { results := [.lit (.bool false)], args := [d] }
  | _ => none }
def FnExactPackWrongFalsely : Prop := fnExactPackRow.holds Try.pinned (OpenSpec.ofChange fnExactPackWrong)

/- THE SECOND FORM. 'bulk': how many values and letters a reading holds, each counted each time it is reached (what is shared counts as often as it is met; a slice's spare places count too). A statement '..UptoSaid' is the law's where the arguments, and the package variables that the reading takes, are together of bulk at most 1048576: NARROWER than '..Said'. Prove '..Said' where nothing that the law and all that it calls make is longer than what came in: it says more and counts as full. Else prove '..UptoSaid'. A law counts once. -/
mutual
def uptoBulk {H : Type} : DataW H → Nat
  | .lit (.string bytes) => bytes.length + 1
  | .lit _ => 1
  | .nil => 1
  | .ptr d => uptoBulk d + 1
  | .slice elems spare => uptoBulkAll elems + uptoBulkAll spare + 1
  | .agg parts => uptoBulkAll parts + 1
  | .iface _ d => uptoBulk d + 1
  | .map entries => uptoBulkEntries entries + 1
  | .held _ => 1
def uptoBulkAll {H : Type} : List (DataW H) → Nat
  | [] => 0
  | d :: r => uptoBulk d + uptoBulkAll r
def uptoBulkEntries {H : Type} : List (Lit × DataW H) → Nat
  | [] => 0
  | x :: r => uptoBulkEntry x + uptoBulkEntries r
def uptoBulkEntry {H : Type} : Lit × DataW H → Nat
  | (.string bytes, d) => bytes.length + uptoBulk d + 1
  | (_, d) => uptoBulk d + 1
 end
def uptoSmall : (H : Type) → List (DataW H) → Bool := fun _ ds => decide (uptoBulkAll ds ≤ 1048576)
def OpenSpec.upto (s : _root_.Go.ChangeSpec) : _root_.Go.OpenSpec := { _root_.Go.OpenSpec.ofChange s with cond := some uptoSmall }

/-- 'laws.FnRange', WHERE WHAT IT READS IS OF BULK AT MOST 1048576: true; the input reads as it did. -/
def fnRangeUptoRow : OpenClaim := { program := "ytdoodkabmeojmaa", sum := "fb1738b254c4f1044e3ca2f3f27eacdb2b65bf0f6100cb6772ca63359b5a0934", func := "loop.example/g00320/laws.FnRange", spec := "fnRange", unfollowed := true, recurses := true, plainKeys := false, apart := false, narrowed := true }
def FnRangeUptoSaid : Prop := fnRangeUptoRow.holds Try.pinned (OpenSpec.upto fnRangeSpec)

/-- 'laws.FnMatch', WHERE WHAT IT READS IS OF BULK AT MOST 1048576: true; the input reads as it did. -/
def fnMatchUptoRow : OpenClaim := { program := "ytdoodkabmeojmaa", sum := "fb1738b254c4f1044e3ca2f3f27eacdb2b65bf0f6100cb6772ca63359b5a0934", func := "loop.example/g00320/laws.FnMatch", spec := "fnMatch", unfollowed := true, recurses := true, plainKeys := false, apart := false, narrowed := true }
def FnMatchUptoSaid : Prop := fnMatchUptoRow.holds Try.pinned (OpenSpec.upto fnMatchSpec)

/-- 'laws.FnExactRangeEncode', WHERE WHAT IT READS IS OF BULK AT MOST 1048576: true; the input reads as it did. -/
def fnExactRangeEncodeUptoRow : OpenClaim := { program := "ytdoodkabmeojmaa", sum := "fb1738b254c4f1044e3ca2f3f27eacdb2b65bf0f6100cb6772ca63359b5a0934", func := "loop.example/g00320/laws.FnExactRangeEncode", spec := "fnExactRangeEncode", unfollowed := true, recurses := true, plainKeys := false, apart := false, narrowed := true }
def FnExactRangeEncodeUptoSaid : Prop := fnExactRangeEncodeUptoRow.holds Try.pinned (OpenSpec.upto fnExactRangeEncodeSpec)

/-- 'laws.FnExactParse', WHERE WHAT IT READS IS OF BULK AT MOST 1048576: true; the input reads as it did. -/
def fnExactParseUptoRow : OpenClaim := { program := "ytdoodkabmeojmaa", sum := "fb1738b254c4f1044e3ca2f3f27eacdb2b65bf0f6100cb6772ca63359b5a0934", func := "loop.example/g00320/laws.FnExactParse", spec := "fnExactParse", unfollowed := true, recurses := true, plainKeys := false, apart := false, narrowed := true }
def FnExactParseUptoSaid : Prop := fnExactParseUptoRow.holds Try.pinned (OpenSpec.upto fnExactParseSpec)

/-- 'laws.FnExactPack', WHERE WHAT IT READS IS OF BULK AT MOST 1048576: true; the input reads as it did. -/
def fnExactPackUptoRow : OpenClaim := { program := "ytdoodkabmeojmaa", sum := "fb1738b254c4f1044e3ca2f3f27eacdb2b65bf0f6100cb6772ca63359b5a0934", func := "loop.example/g00320/laws.FnExactPack", spec := "fnExactPack", unfollowed := true, recurses := true, plainKeys := false, apart := false, narrowed := true }
def FnExactPackUptoSaid : Prop := fnExactPackUptoRow.holds Try.pinned (OpenSpec.upto fnExactPackSpec)

end Rows
end Go.Proofs.Ytdoodkabmeojmaa
