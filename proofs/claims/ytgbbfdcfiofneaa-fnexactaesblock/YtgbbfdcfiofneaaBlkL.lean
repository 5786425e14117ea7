/- The walk over the law of AesBlock. -/
import Derived.Test.YtgbbfdcfiofneaaImpBlk
namespace Go.Proofs.Ytgbbfdcfiofneaa
open Go.RowKit
set_option maxRecDepth 100000 in
set_option maxHeartbeats 400000 in
theorem fnExactAesBlock_walk (a0 : ByteArray) (w0 : a0.size ≤ maxLen) (a1 : ByteArray) (w1 : a1.size ≤ maxLen) (w : World) :
    Calls Try.prog 5 #[.string a0, .string a1] w fun e w' => e = .returned (.bool true) ∧ Below w.heap.size w w' := by
  unfold maxLen at w0 w1
  by_cases h0 : 1048576 < a0.size
  · go_enter Try.func5, Try.ntmps5
    go_wp2_with fail
    go_ret
    exact ⟨rfl, Below.refl _ _⟩
  · by_cases h1 : 1048576 < a1.size
    · go_enter Try.func5, Try.ntmps5
      go_wp2_with fail
      go_ret
      exact ⟨rfl, Below.refl _ _⟩
    · have S := hide (And.intro (fun w => spec_aesBlock a0 a1 w (by omega) (by omega)) (fun w => imp_aesBlock a0 a1 w (by omega) (by omega)))
      generalize aesS a0 a1 = R at *
      have hs : (R.toList == R.toList) = true := str_eq rfl
      go_enter Try.func5, Try.ntmps5
      go_wp2_with fail
      refine (S.out.1 _).mono ?_
      rintro e u1 ⟨rfl, hb1⟩
      go_wp2_with fail
      refine (S.out.2 _).mono ?_
      rintro e u2 ⟨rfl, hb2⟩
      go_wp2_with fail
      go_ret
      exact ⟨rfl, hb1.trans (hb2.mono hb1.size)⟩
end Go.Proofs.Ytgbbfdcfiofneaa
