/- The walk over the program's newCipher. -/
import Derived.Test.YtgbbfdcfiofneaaImpWords
namespace Go.Proofs.Ytgbbfdcfiofneaa
open Go.RowKit
set_option maxRecDepth 100000 in
theorem built_cip (f : Nat → UInt8) : Try.prog.built 59 [(0, .agg (bL 256 f).toArray)] = some (bL 432 fun j => if j < 256 then f j else 0).toArray := by kernel_rfl
theorem wpList_build_one {P : Program} {ops : Array Oper} {rest : List Oper} {o : Oper} {a : Act} {w : World} {Q : Exit → Act → World → Prop} (hg : o.guard = none) (t : TypeId) (i : Nat) (x : Operand) (ho : o.op = .build t #[(i, x)])
    (v : Value) (hv : a.eval x = v) (cells : Array Value) (hb : P.built t [(i, v)] = some cells)
    (h : wpList P ops Q rest (a.put o.dst (.agg cells)) w) : wpList P ops Q (o :: rest) a w := by
  subst hv
  have e : (#[(i, x)].map fun ((i, x) : Nat × Operand) => (i, a.eval x)).toList = [(i, a.eval x)] := by simp
  refine wpList_build hg t _ ho (by rw [e, hb]; rfl) ?_
  rw [e, hb]; exact h
end Go.Proofs.Ytgbbfdcfiofneaa
