/- The walk over the law of Unpack. -/
import Derived.Test.YtdoodkabmeojmabDoorImpUnp
import Derived.Test.YtdoodkabmeojmabDoorPackV
import Derived.Test.YtdoodkabmeojmabDoorEqText
namespace Go.Proofs.YtdoodkabmeojmabDoor
open Go.RowKit
set_option maxRecDepth 100000 in
set_option maxHeartbeats 800000 in
theorem fnExactUnpack_walk (a0 : ByteArray) (w0 : a0.size ≤ maxLen) (w : World) (hg : Laid w) :
    Calls Tryd.prog 3 #[.string a0] w fun e w' => e = .returned (.bool true) ∧ Below w.heap.size w w' := by
  unfold maxLen at w0
  by_cases h1 : 1048576 < a0.size
  · go_enter Tryd.func3, Tryd.ntmps3
    go_wp2_with fail
    go_ret
    exact ⟨rfl, Below.refl _ _⟩
  · have S := hide (And.intro (fun w => spec_unpack a0 w w0) (fun w hg => imp_unpack a0 w hg w0))
    obtain ⟨⟨B, c⟩, hR⟩ : ∃ R, R = unpackS a0 := ⟨_, rfl⟩
    rw [← hR] at S
    simp only [textO] at S
    have HG := hide hg
    clear hg hR
    go_enter Tryd.func3, Tryd.ntmps3
    go_wp2_with fail
    refine (S.out.1 _).mono ?_
    rintro e w1 ⟨rfl, hb1⟩
    have HG1 := hide ((HG.out.below hb1 HG.out.pos).alloc (.cells #[.string B, .int .i64 0, .int .i64 c] 23))
    go_wp2_with fail
    refine (S.out.2 _ HG1.out).mono ?_
    rintro e w2 ⟨rfl, hb2⟩
    simp at hb2
    have s2 := hb2.size
    simp at s2
    obtain ⟨⟨c0, c1, c2⟩, _⟩ := out_cells (hb2.alloc s2 (.cells #[.string B, .int .i64 0, .int .i64 c] 23)) (Nat.lt_succ_self _) (heap_alloc_new w1 _)
    go_wp2_with fail
    refine (eqTextOut_same B 0 c _).mono ?_
    rintro e w3 ⟨rfl, hb3⟩
    simp at hb3
    go_wp2_with fail
    go_ret
    exact ⟨rfl, law_below hb1 hb2 hb3⟩
end Go.Proofs.YtdoodkabmeojmabDoor
