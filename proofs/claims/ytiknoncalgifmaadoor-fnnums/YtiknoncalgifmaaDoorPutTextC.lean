/- The walks over PutText, of the program and of the model. -/
import Derived.Test.YtiknoncalgifmaaDoorPutNumW
import Derived.Test.YtiknoncalgifmaaDoorPutNumI
import Derived.Test.YtiknoncalgifmaaDoorJoinedT
namespace Go.Proofs.YtiknoncalgifmaaDoor
open Go.RowKit

/-- What PutText tells. -/
def putText (t : ByteArray) : ByteArray := ⟨(encNum (foldNum t.size)).toArray⟩ ++ t

theorem num_len (n : Nat) (h : n ≤ 20000) : (encNum (foldNum n)).length ≤ 10 := encNum_len10 _ (by have := fold_pos n (by omega); omega)

set_option maxRecDepth 100000 in
set_option maxHeartbeats 400000 in
theorem spec_putText_long (t : ByteArray) (w : World) (h : 20000 < t.size) (hm : t.size ≤ 9223372036854775807) :
    Calls Tryd.prog 11 #[.string t] w fun e w' => e = .returned (.string ⟨#[]⟩) ∧ w = w' := by
  go_enter Tryd.func11, Tryd.ntmps11
  go_wp2_with fail
  go_ret
  exact ⟨rfl, rfl⟩
set_option maxRecDepth 100000 in
set_option maxHeartbeats 400000 in
theorem impl_putText_long (t : ByteArray) (w : World) (h : 20000 < t.size) (hm : t.size ≤ 9223372036854775807) :
    Calls Tryd.prog 10 #[.string t] w fun e w' => e = .returned (.string ⟨#[]⟩) ∧ w = w' := by
  go_enter Tryd.func10, Tryd.ntmps10
  go_wp2_with fail
  go_ret
  exact ⟨rfl, rfl⟩

set_option maxRecDepth 100000 in
set_option maxHeartbeats 400000 in
theorem spec_putText (t : ByteArray) (w : World) (h : t.size ≤ 20000) :
    Calls Tryd.prog 11 #[.string t] w fun e w' => e = .returned (.string (putText t)) ∧ Below w.heap.size w w' := by
  go_enter Tryd.func11, Tryd.ntmps11
  go_wp2_with fail
  refine (spec_putNum _ _ (by omega) (by omega)).mono ?_
  rintro e w1 ⟨rfl, hb1⟩
  have hl := num_len t.size h
  go_wp2_with fail
  go_ret
  exact ⟨rfl, hb1⟩

set_option maxRecDepth 100000 in
set_option maxHeartbeats 400000 in
theorem impl_putText (t : ByteArray) (w : World) (h : t.size ≤ 20000) :
    Calls Tryd.prog 10 #[.string t] w fun e w' => e = .returned (.string (putText t)) ∧ Below w.heap.size w w' := by
  go_enter Tryd.func10, Tryd.ntmps10
  go_wp2_with fail
  refine (impl_putNum _ _ (by omega) (by omega)).mono ?_
  rintro e w1 ⟨rfl, hb1⟩
  have hl := num_len t.size h
  go_wp2_with fail
  refine (joined_two _ t w1 _ rfl ?_).mono ?_
  · rw [size_mk]; omega
  rintro e w2 ⟨rfl, hb2⟩
  go_wp2_with fail
  go_ret
  exact ⟨rfl, hb1.trans (hb2.mono hb1.size)⟩
end Go.Proofs.YtiknoncalgifmaaDoor
