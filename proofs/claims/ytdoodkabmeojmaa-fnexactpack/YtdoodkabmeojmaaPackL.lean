/- The walk over the law of Pack. -/
import Derived.Test.YtdoodkabmeojmaaImpPack
namespace Go.Proofs.Ytdoodkabmeojmaa
open Go.RowKit
set_option maxRecDepth 100000 in
set_option maxHeartbeats 400000 in
theorem fnExactPack_walk (a0 : ByteArray) (w0 : a0.size ≤ maxLen) (w : World) :
    Calls Try.prog 7 #[.string a0] w fun e w' => e = .returned (.bool true) ∧ Below w.heap.size w w' := by
  unfold maxLen at w0
  by_cases h1 : 1048576 < a0.size
  · go_enter Try.func7, Try.ntmps7
    go_wp2_with fail
    go_ret
    exact ⟨rfl, Below.refl _ _⟩
  · have SP := hide (And.intro (fun w => spec_pack a0 w w0) (fun w => imp_pack a0 w w0))
    generalize packS a0 = P at *
    have st : (P.toList == P.toList) = true := str_eq rfl
    go_enter Try.func7, Try.ntmps7
    go_wp2_with fail
    refine (SP.out.1 _).mono ?_
    rintro e w1 ⟨rfl, hb1⟩
    have B1 := hide hb1
    clear hb1
    go_wp2_with fail
    refine (SP.out.2 _).mono ?_
    rintro e w2 ⟨rfl, hb2⟩
    have B2 := hide (B1.out.trans (hb2.mono B1.out.size))
    clear hb2
    go_wp2_with fail
    go_ret
    exact ⟨rfl, B2.out⟩
end Go.Proofs.Ytdoodkabmeojmaa
