/- The law's helper toExtent; the laws of SectorsOf and ExtentRight hold. -/
import Derived.Test.YtipeelkmmjgehaaExtI
namespace Go.Proofs.Ytipeelkmmjgehaa
open Go Go.RowKit
set_option maxRecDepth 100000 in
theorem law_toExtent (a m : Int) (w : World) :
    Calls Try.prog 21 #[.agg #[.int .i64 a, .int .i64 m]] w fun e w' => e = .returned (.agg #[.int .i64 a, .int .i64 m]) ∧ Below w.heap.size w w' := by
  go_enter Try.func21, Try.ntmps21
  go_wp2_with fail
  go_returns
  exact ⟨rfl, by go_grown⟩
theorem fnExactSectorsOf_walk (m : Int) (_wm : (Lit.int .i64 m).wf = true) (w : World) :
    Calls Try.prog 4 #[.int .i64 m] w fun e w' => e = .returned (.bool true) ∧ Below w.heap.size w w' := by
  go_enter Try.func4, Try.ntmps4
  go_wp2_with fail
  refine (spec_sectorsOf m w).mono ?_
  rintro e w1 ⟨rfl, rfl⟩
  go_wp2_with fail
  refine (imp_sectorsOf m w1).mono ?_
  rintro e w2 ⟨rfl, rfl⟩
  generalize secsOf m = q
  go_wp2_with fail
  go_ret
  exact ⟨rfl, Below.refl _ _⟩
set_option maxRecDepth 100000 in
theorem fnExactExtentRight_walk (a m : Int) (n : Int) (_wn : (Lit.int .i64 n).wf = true) (w : World) :
    Calls Try.prog 5 #[.agg #[.int .i64 a, .int .i64 m], .int .i64 n] w fun e w' => e = .returned (.bool true) ∧ Below w.heap.size w w' := by
  have q0 : Below w.heap.size w (w.alloc (.cells #[.int .i64 a, .int .i64 m] 39)) := (Below.refl _ w).alloc (Nat.le_refl _) _
  have q1 : (w.alloc (.cells #[.int .i64 a, .int .i64 m] 39)).heap[w.heap.size]? = some (.cells #[.int .i64 a, .int .i64 m] 39) := heap_alloc_new _ _
  have q2 : w.heap.size < (w.alloc (.cells #[.int .i64 a, .int .i64 m] 39)).heap.size := by simp
  have HQ := hide (And.intro q0 q1)
  clear q0 q1
  go_enter Try.func5, Try.ntmps5
  go_wp2_with fail
  obtain ⟨q0, q1⟩ := HQ.out
  generalize w.alloc (.cells #[.int .i64 a, .int .i64 m] 39) = W1 at *
  refine (law_toExtent a m W1).mono ?_
  rintro e w2 ⟨rfl, hb2⟩
  go_wp2_with fail
  refine (spec_extentRight a m n w2).mono ?_
  rintro e w3 ⟨⟨r, rfl, hr⟩, hb3⟩
  have b3 := hb2.trans (hb3.mono hb2.size)
  have k3 := (b3.block w.heap.size q2).trans q1
  have c0 : w3.cell? ⟨w.heap.size, 0, none⟩ = some (.int .i64 a) := by simp [World.cell?, k3]
  have c1 : w3.cell? ⟨w.heap.size, 1, none⟩ = some (.int .i64 m) := by simp [World.cell?, k3]
  have B3 := hide (q0.trans (b3.mono (by omega)))
  have HR := hide hr
  clear hb2 hb3 b3 k3 q0 q1 HQ hr
  go_wp2_with fail
  refine (law_toExtent a m w3).mono ?_
  rintro e w4 ⟨rfl, hb4⟩
  clear c0 c1
  go_wp2_with fail
  refine (imp_extentRight a m n w4).mono ?_
  rintro e w5 ⟨⟨r2, rfl, hr2⟩, hb5⟩
  obtain rfl : r = r2 := Bool.eq_iff_iff.2 (HR.out.trans hr2.symm)
  have hbq : (r != r) = false := by simp
  have B5 := hide (B3.out.trans ((hb4.trans (hb5.mono hb4.size)).mono B3.out.size))
  clear hb4 hb5 hr2
  go_wp2_with fail
  go_ret
  exact ⟨rfl, B5.out⟩
end Go.Proofs.Ytipeelkmmjgehaa
