/- The walks over the program's isMatch and size. -/
import Derived.Test.YtdoodkabmeojmaaDoorRows
import Derived.Test.YtdoodkabmeojmaaDoorTokC
namespace Go.Proofs.YtdoodkabmeojmaaDoor
open Go.RowKit
set_option maxRecDepth 100000 in
set_option maxHeartbeats 400000 in
theorem imp_isMatch (b m f : Int) (w : World) :
    Calls Tryd.prog 35 #[.agg #[.int .i64 b, .int .i64 m, .int .i64 f]] w fun e w' => e = .returned (.bool (m != 0)) ∧ Below w.heap.size w w' := by
  go_enter Tryd.func35, Tryd.ntmps35
  go_wp2_with fail
  go_ret
  exact ⟨rfl, (Below.refl _ _).alloc (Nat.le_refl _) _⟩
set_option maxRecDepth 100000 in
set_option maxHeartbeats 400000 in
theorem imp_size (b m f : Int) (w : World) :
    Calls Tryd.prog 33 #[.agg #[.int .i64 b, .int .i64 m, .int .i64 f]] w fun e w' => e = .returned (.int .i64 (tokSize m)) ∧ Below w.heap.size w w' := by
  have SI := hide (fun w => imp_isMatch b m f w)
  by_cases hm : m = 0
  · have hd : (m != 0) = false := by rw [hm]; rfl
    have HE := hide (show tokSize m = 1 from if_pos hm)
    rw [hd] at SI
    clear hm
    go_enter Tryd.func33, Tryd.ntmps33
    go_wp2_with fail
    refine (SI.out _).mono ?_
    rintro e w1 ⟨rfl, hb⟩
    go_wp2_with fail
    go_ret
    exact ⟨by rw [HE.out]; rfl, ((Below.refl _ _).alloc (Nat.le_refl _) _).trans (hb.mono (by simp))⟩
  · have hd : (m != 0) = true := by simpa using hm
    have HE := hide (show tokSize m = m from if_neg hm)
    rw [hd] at SI
    clear hm
    go_enter Tryd.func33, Tryd.ntmps33
    go_wp2_with fail
    refine (SI.out _).mono ?_
    rintro e w1 ⟨rfl, hb⟩
    have c1 := (hb.cell (p := ⟨w.heap.size, 1, none⟩) (by simp)).trans (show (w.alloc (.cells #[.int .i64 b, .int .i64 m, .int .i64 f] 38)).cell? ⟨w.heap.size, 1, none⟩ = some (.int .i64 m) by simp)
    go_wp2_with fail
    go_ret
    exact ⟨by rw [HE.out]; rfl, ((Below.refl _ _).alloc (Nat.le_refl _) _).trans (hb.mono (by simp))⟩
end Go.Proofs.YtdoodkabmeojmaaDoor
