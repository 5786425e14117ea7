/- Keys that came in, opened. -/
import Derived.Test.YtconcnndghmdfaaRows
import Derived.Test.YtconcnndghmdfaaOwn
import Derived.ProofKit
import Derived.OpenShut
import Derived.Deep.Slices
import Derived.Lib.SmallJoins
namespace Go.Proofs.Ytconcnndghmdfaa
open Go.ChangeShapes Go.WideShapes Go.ChangeAt Go.RowKit Go.Deep Go.Joins
theorem Try.cellsLawKeys : Try.prog.cellsOf 23 = 2 := by kernel_rfl
set_option maxRecDepth 100000 in
theorem open_keys {H : Type} {enc : TypeId × Value → H} {W : World} {b0 : Nat} {v : Value} {d : DataW H} {p : List MemPlace} (hv : Value.okWide Try.prog W .any b0 23 v) (h : DataW.Trod enc Try.prog W 0 (fun _ => true) true 23 v d p) :
    ∃ a m : ByteArray, v = .agg #[.string a, .string m] ∧ a.size ≤ maxLen ∧ m.size ≤ maxLen := by
  obtain ⟨c0, c1, y0, y1, n, rfl, _, _, h0, h1⟩ := open_agg2 Try.underlying23 (by kernel_rfl) Try.cellsLawKeys hv h
  obtain ⟨z0, e0, _, s0⟩ := DataW.trod_string Try.underlying9 h0
  obtain ⟨z1, e1, _, s1⟩ := DataW.trod_string Try.underlying9 h1
  simp at e0 e1
  subst e0 e1
  exact ⟨z0, z1, rfl, s0, s1⟩
end Go.Proofs.Ytconcnndghmdfaa
