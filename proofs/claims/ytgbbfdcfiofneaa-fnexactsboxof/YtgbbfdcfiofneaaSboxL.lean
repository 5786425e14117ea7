/- The walk over the law of SboxOf. -/
import Derived.Test.YtgbbfdcfiofneaaImpTab
namespace Go.Proofs.Ytgbbfdcfiofneaa
open Go.RowKit
set_option maxRecDepth 100000 in
set_option maxHeartbeats 400000 in
theorem fnExactSboxOf_walk (n : Int) (_hn : (Lit.int .i64 n).wf = true) (w : World) :
    Calls Try.prog 7 #[.int .i64 n] w fun e w' => e = .returned (.bool true) ∧ Below w.heap.size w w' := by
  have S := hide (And.intro (fun w => spec_sboxOf n w) (fun w => imp_sboxOf n w))
  generalize sboxS n = R at *
  go_enter Try.func7, Try.ntmps7
  go_wp2_with fail
  refine (S.out.1 _).mono ?_
  rintro e w1 ⟨rfl, rfl⟩
  go_wp2_with fail
  refine (S.out.2 _).mono ?_
  rintro e w1 ⟨rfl, hb⟩
  go_wp2_with fail
  go_ret
  exact ⟨rfl, hb⟩
end Go.Proofs.Ytgbbfdcfiofneaa
