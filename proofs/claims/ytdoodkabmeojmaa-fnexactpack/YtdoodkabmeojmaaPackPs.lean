/- The walk over the model's Pack. -/
import Derived.Test.YtdoodkabmeojmaaPackP
namespace Go.Proofs.Ytdoodkabmeojmaa
open Go.RowKit
set_option maxRecDepth 100000 in
set_option maxHeartbeats 400000 in
theorem spec_pack (t : ByteArray) (w : World) (hts : t.size ≤ 9223372036854775807) :
    Calls Try.prog 28 #[.string t] w fun e w' => e = .returned (.string (packS t)) ∧ Below w.heap.size w w' := by
  by_cases h : t.size ≤ 4000
  · have h' : ¬ (4000 : Int) < (t.size : Int) := by omega
    have hE : packS t = packB t := if_pos h
    rw [hE]
    have SP := hide (spec_pack0 t w h)
    clear hE
    go_enter Try.func28, Try.ntmps28
    go_wp2_with fail
    refine SP.out.mono ?_
    rintro e w1 ⟨rfl, hb1⟩
    go_wp2_with fail
    go_ret
    exact ⟨rfl, hb1⟩
  · have h' : (4000 : Int) < (t.size : Int) := by omega
    have hE : packS t = ⟨#[]⟩ := if_neg h
    rw [hE]
    clear hE
    go_enter Try.func28, Try.ntmps28
    go_wp2_with fail
    go_ret
    exact ⟨rfl, Below.refl _ _⟩
end Go.Proofs.Ytdoodkabmeojmaa
