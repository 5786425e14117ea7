/- The walk over the law of GetNum. -/
import Derived.Test.YtkhjbjggpkffkadDoorGetNumS
import Derived.Test.YtkhjbjggpkffkadDoorEqNum
namespace Go.Proofs.YtkhjbjggpkffkadDoor
open Go.RowKit

theorem numAns_good (q U m : Nat) : numAns q (0, U, m) = numOut (unfold U) ((q : Int) + m) 0 := by unfold numAns; rw [if_pos rfl]
theorem numAns_bad (q c : Nat) (h : c ≠ 0) : numAns q (c, 0, 0) = numOut 0 0 c := by unfold numAns; rw [if_neg h]

set_option maxRecDepth 100000 in
set_option maxHeartbeats 800000 in
theorem getNum_law_long (a0 : ByteArray) (a1 : Int) (w : World) (hg : Laid w) (h1 : a0.size ≤ 1048576) (h2 : 20000 < a0.size) :
    Calls Tryd.prog 3 #[.string a0, .int .i64 a1] w fun e w' => e = .returned (.bool true) ∧ Below w.heap.size w w' := by
  have HG := hide hg
  clear hg
  go_enter Tryd.func3, Tryd.ntmps3
  go_wp2_with fail
  refine (spec_getNum_long a0 a1 _ (by omega) h2).mono ?_
  rintro e w1 ⟨rfl, hb1⟩
  have HG1 := hide ((HG.out.below hb1 HG.out.pos).alloc (.cells #[.int .i64 0, .int .i64 0, .int .i64 2] 23))
  unfold numOut
  go_wp2_with fail
  refine (impl_getNum_long a0 a1 _ (by omega) h2).mono ?_
  rintro e w2 ⟨rfl, hb2⟩
  simp at hb2
  unfold numOut
  have s2 := hb2.size
  simp at s2
  obtain ⟨⟨c0, c1, c2⟩, _⟩ := out_cells (hb2.alloc s2 (.cells #[.int .i64 0, .int .i64 0, .int .i64 2] 23)) (Nat.lt_succ_self _) (heap_alloc_new w1 _)
  go_wp2_with fail
  refine (eqNumOut_same 0 0 2 _).mono ?_
  rintro e w3 ⟨rfl, hb3⟩
  simp at hb3
  go_wp2_with fail
  go_ret
  exact ⟨rfl, law_below hb1 hb2 hb3⟩

set_option maxRecDepth 100000 in
set_option maxHeartbeats 800000 in
theorem getNum_law_neg (a0 : ByteArray) (a1 : Int) (w : World) (hg : Laid w) (h1 : a0.size ≤ 1048576) (h2 : a0.size ≤ 20000) (h3 : a1 < 0) :
    Calls Tryd.prog 3 #[.string a0, .int .i64 a1] w fun e w' => e = .returned (.bool true) ∧ Below w.heap.size w w' := by
  have HG := hide hg
  clear hg
  go_enter Tryd.func3, Tryd.ntmps3
  go_wp2_with fail
  refine (spec_getNum_neg a0 a1 _ h2 h3).mono ?_
  rintro e w1 ⟨rfl, hb1⟩
  have HG1 := hide ((HG.out.below hb1 HG.out.pos).alloc (.cells #[.int .i64 0, .int .i64 0, .int .i64 1] 23))
  unfold numOut
  go_wp2_with fail
  refine (impl_getNum_neg a0 a1 _ HG1.out h2 h3).mono ?_
  rintro e w2 ⟨rfl, hb2⟩
  simp at hb2
  unfold numOut
  have s2 := hb2.size
  simp at s2
  obtain ⟨⟨c0, c1, c2⟩, _⟩ := out_cells (hb2.alloc s2 (.cells #[.int .i64 0, .int .i64 0, .int .i64 1] 23)) (Nat.lt_succ_self _) (heap_alloc_new w1 _)
  go_wp2_with fail
  refine (eqNumOut_same 0 0 1 _).mono ?_
  rintro e w3 ⟨rfl, hb3⟩
  simp at hb3
  go_wp2_with fail
  go_ret
  exact ⟨rfl, law_below hb1 hb2 hb3⟩

set_option maxRecDepth 100000 in
set_option maxHeartbeats 800000 in
theorem getNum_law_good (a0 : ByteArray) (q U m : Nat) (w : World) (hg : Laid w) (h1 : a0.size ≤ 1048576) (h2 : a0.size ≤ 20000) (hq : (q : Int) ≤ 9223372036854775807) (hd : decAt a0 q = (0, U, m)) :
    Calls Tryd.prog 3 #[.string a0, .int .i64 (q : Int)] w fun e w' => e = .returned (.bool true) ∧ Below w.heap.size w w' := by
  have HG := hide hg
  clear hg
  have HD := hide hd
  clear hd
  go_enter Tryd.func3, Tryd.ntmps3
  go_wp2_with fail
  refine (spec_getNum a0 q _ h2 hq).mono ?_
  rintro e w1 ⟨rfl, hb1⟩
  have HG1 := hide ((HG.out.below hb1 HG.out.pos).alloc (.cells #[.int .i64 (unfold U), .int .i64 ((q : Int) + m), .int .i64 0] 23))
  rw [unhide HD, numAns_good]
  unfold numOut
  go_wp2_with fail
  refine (impl_getNum_good a0 q U m _ h2 hq HD.out).mono ?_
  rintro e w2 ⟨rfl, hb2⟩
  simp at hb2
  unfold numOut
  have s2 := hb2.size
  simp at s2
  obtain ⟨⟨c0, c1, c2⟩, _⟩ := out_cells (hb2.alloc s2 (.cells #[.int .i64 (unfold U), .int .i64 ((q : Int) + m), .int .i64 0] 23)) (Nat.lt_succ_self _) (heap_alloc_new w1 _)
  go_wp2_with fail
  refine (eqNumOut_same (unfold U) ((q : Int) + m) 0 _).mono ?_
  rintro e w3 ⟨rfl, hb3⟩
  simp at hb3
  go_wp2_with fail
  go_ret
  exact ⟨rfl, law_below hb1 hb2 hb3⟩

set_option maxRecDepth 100000 in
set_option maxHeartbeats 800000 in
theorem getNum_law_bad (a0 : ByteArray) (q c : Nat) (w : World) (hg : Laid w) (h1 : a0.size ≤ 1048576) (h2 : a0.size ≤ 20000) (hq : (q : Int) ≤ 9223372036854775807) (hc : c ≠ 0) (hd : decAt a0 q = (c, 0, 0)) :
    Calls Tryd.prog 3 #[.string a0, .int .i64 (q : Int)] w fun e w' => e = .returned (.bool true) ∧ Below w.heap.size w w' := by
  have HG := hide hg
  clear hg
  have HD := hide hd
  have HC := hide hc
  clear hd hc
  go_enter Tryd.func3, Tryd.ntmps3
  go_wp2_with fail
  refine (spec_getNum a0 q _ h2 hq).mono ?_
  rintro e w1 ⟨rfl, hb1⟩
  have HG1 := hide ((HG.out.below hb1 HG.out.pos).alloc (.cells #[.int .i64 0, .int .i64 0, .int .i64 c] 23))
  rw [unhide HD, numAns_bad q c HC.out]
  unfold numOut
  go_wp2_with fail
  refine (impl_getNum_bad a0 q c _ HG1.out h2 hq HC.out HD.out).mono ?_
  rintro e w2 ⟨rfl, hb2⟩
  simp at hb2
  unfold numOut
  have s2 := hb2.size
  simp at s2
  obtain ⟨⟨c0, c1, c2⟩, _⟩ := out_cells (hb2.alloc s2 (.cells #[.int .i64 0, .int .i64 0, .int .i64 c] 23)) (Nat.lt_succ_self _) (heap_alloc_new w1 _)
  go_wp2_with fail
  refine (eqNumOut_same 0 0 c _).mono ?_
  rintro e w3 ⟨rfl, hb3⟩
  simp at hb3
  go_wp2_with fail
  go_ret
  exact ⟨rfl, law_below hb1 hb2 hb3⟩

set_option maxRecDepth 100000 in
set_option maxHeartbeats 400000 in
theorem fnExactGetNum_walk (a0 : ByteArray) (w0 : a0.size ≤ maxLen) (a1 : Int) (w1 : (Lit.int .i64 a1).wf = true) (w : World) (hg : Laid w) :
    Calls Tryd.prog 3 #[.string a0, .int .i64 a1] w fun e w' => e = .returned (.bool true) ∧ Below w.heap.size w w' := by
  unfold maxLen at w0
  have hb := i64_of w1
  by_cases h1 : 1048576 < a0.size
  · clear hg w1
    go_enter Tryd.func3, Tryd.ntmps3
    go_wp2_with fail
    go_ret
    exact ⟨rfl, Below.refl _ _⟩
  by_cases h2 : 20000 < a0.size
  · exact getNum_law_long a0 a1 w hg (by omega) h2
  by_cases h3 : a1 < 0
  · exact getNum_law_neg a0 a1 w hg (by omega) (by omega) h3
  obtain ⟨q, rfl⟩ := Int.eq_ofNat_of_zero_le (show 0 ≤ a1 by omega)
  rcases decAt_form a0 q with ⟨U, m, hd, _⟩ | hd | hd
  · exact getNum_law_good a0 q U m w hg (by omega) (by omega) hb.2 hd
  · exact getNum_law_bad a0 q 3 w hg (by omega) (by omega) hb.2 (by decide) hd
  · exact getNum_law_bad a0 q 4 w hg (by omega) (by omega) hb.2 (by decide) hd
end Go.Proofs.YtkhjbjggpkffkadDoor
