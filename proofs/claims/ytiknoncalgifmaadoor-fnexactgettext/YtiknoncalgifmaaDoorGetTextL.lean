/- The walk over the law of GetText. -/
import Derived.Test.YtiknoncalgifmaaDoorGetTextS
import Derived.Test.YtiknoncalgifmaaDoorEqText
namespace Go.Proofs.YtiknoncalgifmaaDoor
open Go.RowKit

set_option maxRecDepth 100000 in
set_option maxHeartbeats 800000 in
theorem getText_law_long (a0 : ByteArray) (p : Int) (w : World) (hg : Laid w) (h1 : a0.size ≤ 1048576) (h2 : 20000 < a0.size) :
    Calls Tryd.prog 4 #[.string a0, .int .i64 p] w fun e w' => e = .returned (.bool true) ∧ Below w.heap.size w w' := by
  have HG := hide hg
  clear hg
  go_enter Tryd.func4, Tryd.ntmps4
  go_wp2_with fail
  refine (spec_getText_long a0 p _ (by omega) h2).mono ?_
  rintro e w1 ⟨rfl, hb1⟩
  have HG1 := hide ((HG.out.below hb1 HG.out.pos).alloc (.cells #[.string ⟨#[]⟩, .int .i64 0, .int .i64 2] 31))
  unfold textOut
  go_wp2_with fail
  refine (impl_getText_long a0 p _ (by omega) h2).mono ?_
  rintro e w2 ⟨rfl, hb2⟩
  simp at hb2
  unfold textOut
  have s2 := hb2.size
  simp at s2
  obtain ⟨⟨c0, c1, c2⟩, _⟩ := out_cells (hb2.alloc s2 (.cells #[.string ⟨#[]⟩, .int .i64 0, .int .i64 2] 31)) (Nat.lt_succ_self _) (heap_alloc_new w1 _)
  go_wp2_with fail
  refine (eqTextOut_same ⟨#[]⟩ 0 2 _).mono ?_
  rintro e w3 ⟨rfl, hb3⟩
  simp at hb3
  go_wp2_with fail
  go_ret
  exact ⟨rfl, law_below hb1 hb2 hb3⟩

set_option maxRecDepth 100000 in
set_option maxHeartbeats 800000 in
theorem getText_law_neg (a0 : ByteArray) (p : Int) (w : World) (hg : Laid w) (h1 : a0.size ≤ 1048576) (h2 : a0.size ≤ 20000) (h3 : p < 0) :
    Calls Tryd.prog 4 #[.string a0, .int .i64 p] w fun e w' => e = .returned (.bool true) ∧ Below w.heap.size w w' := by
  have HG := hide hg
  clear hg
  go_enter Tryd.func4, Tryd.ntmps4
  go_wp2_with fail
  refine (spec_getText_neg a0 p _ h2 h3).mono ?_
  rintro e w1 ⟨rfl, hb1⟩
  have HG1 := hide ((HG.out.below hb1 HG.out.pos).alloc (.cells #[.string ⟨#[]⟩, .int .i64 0, .int .i64 1] 31))
  unfold textOut
  go_wp2_with fail
  refine (impl_getText_neg a0 p _ HG1.out h2 h3).mono ?_
  rintro e w2 ⟨rfl, hb2⟩
  simp at hb2
  unfold textOut
  have s2 := hb2.size
  simp at s2
  obtain ⟨⟨c0, c1, c2⟩, _⟩ := out_cells (hb2.alloc s2 (.cells #[.string ⟨#[]⟩, .int .i64 0, .int .i64 1] 31)) (Nat.lt_succ_self _) (heap_alloc_new w1 _)
  go_wp2_with fail
  refine (eqTextOut_same ⟨#[]⟩ 0 1 _).mono ?_
  rintro e w3 ⟨rfl, hb3⟩
  simp at hb3
  go_wp2_with fail
  go_ret
  exact ⟨rfl, law_below hb1 hb2 hb3⟩

set_option maxRecDepth 100000 in
set_option maxHeartbeats 800000 in
theorem getText_law_bad (a0 : ByteArray) (q c : Nat) (w : World) (hg : Laid w) (h1 : a0.size ≤ 1048576) (h2 : a0.size ≤ 20000) (hq : (q : Int) ≤ 9223372036854775807) (hc : c ≠ 0) (hd : decAt a0 q = (c, 0, 0)) :
    Calls Tryd.prog 4 #[.string a0, .int .i64 q] w fun e w' => e = .returned (.bool true) ∧ Below w.heap.size w w' := by
  have HG := hide hg
  clear hg
  have Hc := hide hc
  have Hd := hide hd
  clear hc hd
  go_enter Tryd.func4, Tryd.ntmps4
  go_wp2_with fail
  refine (spec_getText_bad a0 q c _ h2 hq Hc.out Hd.out).mono ?_
  rintro e w1 ⟨rfl, hb1⟩
  have HG1 := hide ((HG.out.below hb1 HG.out.pos).alloc (.cells #[.string ⟨#[]⟩, .int .i64 0, .int .i64 c] 31))
  unfold textOut
  go_wp2_with fail
  refine (impl_getText_bad a0 q c _ HG1.out h2 hq Hc.out Hd.out).mono ?_
  rintro e w2 ⟨rfl, hb2⟩
  simp at hb2
  unfold textOut
  have s2 := hb2.size
  simp at s2
  obtain ⟨⟨c0, c1, c2⟩, _⟩ := out_cells (hb2.alloc s2 (.cells #[.string ⟨#[]⟩, .int .i64 0, .int .i64 c] 31)) (Nat.lt_succ_self _) (heap_alloc_new w1 _)
  go_wp2_with fail
  refine (eqTextOut_same ⟨#[]⟩ 0 c _).mono ?_
  rintro e w3 ⟨rfl, hb3⟩
  simp at hb3
  go_wp2_with fail
  go_ret
  exact ⟨rfl, law_below hb1 hb2 hb3⟩

set_option maxRecDepth 100000 in
set_option maxHeartbeats 800000 in
theorem getText_law_low (a0 : ByteArray) (q U m : Nat) (w : World) (hg : Laid w) (h1 : a0.size ≤ 1048576) (h2 : a0.size ≤ 20000) (hq : (q : Int) ≤ 9223372036854775807) (hd : decAt a0 q = (0, U, m)) (hN : unfold U < 0) :
    Calls Tryd.prog 4 #[.string a0, .int .i64 q] w fun e w' => e = .returned (.bool true) ∧ Below w.heap.size w w' := by
  have HG := hide hg
  clear hg
  have Hd := hide hd
  have HN := hide hN
  clear hd hN
  go_enter Tryd.func4, Tryd.ntmps4
  go_wp2_with fail
  refine (spec_getText_range_low a0 q U m _ _ h2 hq Hd.out rfl HN.out).mono ?_
  rintro e w1 ⟨rfl, hb1⟩
  have HG1 := hide ((HG.out.below hb1 HG.out.pos).alloc (.cells #[.string ⟨#[]⟩, .int .i64 0, .int .i64 3] 31))
  unfold textOut
  go_wp2_with fail
  refine (impl_getText_range a0 q U m _ HG1.out h2 hq Hd.out (.inl HN.out)).mono ?_
  rintro e w2 ⟨rfl, hb2⟩
  simp at hb2
  unfold textOut
  have s2 := hb2.size
  simp at s2
  obtain ⟨⟨c0, c1, c2⟩, _⟩ := out_cells (hb2.alloc s2 (.cells #[.string ⟨#[]⟩, .int .i64 0, .int .i64 3] 31)) (Nat.lt_succ_self _) (heap_alloc_new w1 _)
  go_wp2_with fail
  refine (eqTextOut_same ⟨#[]⟩ 0 3 _).mono ?_
  rintro e w3 ⟨rfl, hb3⟩
  simp at hb3
  go_wp2_with fail
  go_ret
  exact ⟨rfl, law_below hb1 hb2 hb3⟩

set_option maxRecDepth 100000 in
set_option maxHeartbeats 800000 in
theorem getText_law_high (a0 : ByteArray) (q U m : Nat) (w : World) (hg : Laid w) (h1 : a0.size ≤ 1048576) (h2 : a0.size ≤ 20000) (hq : (q : Int) ≤ 9223372036854775807) (hd : decAt a0 q = (0, U, m)) (hN : 20000 < unfold U) :
    Calls Tryd.prog 4 #[.string a0, .int .i64 q] w fun e w' => e = .returned (.bool true) ∧ Below w.heap.size w w' := by
  have HG := hide hg
  clear hg
  have Hd := hide hd
  have HN := hide hN
  clear hd hN
  go_enter Tryd.func4, Tryd.ntmps4
  go_wp2_with fail
  refine (spec_getText_range_high a0 q U m _ _ h2 hq Hd.out rfl (Int.le_trans (by decide) (Int.le_of_lt HN.out)) HN.out).mono ?_
  rintro e w1 ⟨rfl, hb1⟩
  have HG1 := hide ((HG.out.below hb1 HG.out.pos).alloc (.cells #[.string ⟨#[]⟩, .int .i64 0, .int .i64 3] 31))
  unfold textOut
  go_wp2_with fail
  refine (impl_getText_range a0 q U m _ HG1.out h2 hq Hd.out (.inr HN.out)).mono ?_
  rintro e w2 ⟨rfl, hb2⟩
  simp at hb2
  unfold textOut
  have s2 := hb2.size
  simp at s2
  obtain ⟨⟨c0, c1, c2⟩, _⟩ := out_cells (hb2.alloc s2 (.cells #[.string ⟨#[]⟩, .int .i64 0, .int .i64 3] 31)) (Nat.lt_succ_self _) (heap_alloc_new w1 _)
  go_wp2_with fail
  refine (eqTextOut_same ⟨#[]⟩ 0 3 _).mono ?_
  rintro e w3 ⟨rfl, hb3⟩
  simp at hb3
  go_wp2_with fail
  go_ret
  exact ⟨rfl, law_below hb1 hb2 hb3⟩

set_option maxRecDepth 100000 in
set_option maxHeartbeats 800000 in
theorem getText_law_short (a0 : ByteArray) (q U m A N : Nat) (w : World) (hg : Laid w) (h1 : a0.size ≤ 1048576) (h2 : a0.size ≤ 20000) (hq : (q : Int) ≤ 9223372036854775807) (hd : decAt a0 q = (0, U, m)) (hA : (q : Int) + m = A) (hAs : A ≤ a0.size) (hN : unfold U = (N : Int)) (hM : N ≤ 20000) (hS : a0.size < A + N) :
    Calls Tryd.prog 4 #[.string a0, .int .i64 q] w fun e w' => e = .returned (.bool true) ∧ Below w.heap.size w w' := by
  have HG := hide hg
  clear hg
  have Hd := hide hd
  have HA := hide hA
  have HAs := hide hAs
  have HN := hide hN
  have HM := hide hM
  have HS := hide hS
  clear hd hA hAs hN hM hS
  go_enter Tryd.func4, Tryd.ntmps4
  go_wp2_with fail
  refine (spec_getText_short a0 q U m A N _ h2 hq Hd.out HA.out HAs.out HN.out HM.out HS.out).mono ?_
  rintro e w1 ⟨rfl, hb1⟩
  have HG1 := hide ((HG.out.below hb1 HG.out.pos).alloc (.cells #[.string ⟨#[]⟩, .int .i64 0, .int .i64 4] 31))
  unfold textOut
  go_wp2_with fail
  refine (impl_getText_short a0 q U m A N _ HG1.out h2 hq Hd.out HA.out HAs.out HN.out HM.out HS.out).mono ?_
  rintro e w2 ⟨rfl, hb2⟩
  simp at hb2
  unfold textOut
  have s2 := hb2.size
  simp at s2
  obtain ⟨⟨c0, c1, c2⟩, _⟩ := out_cells (hb2.alloc s2 (.cells #[.string ⟨#[]⟩, .int .i64 0, .int .i64 4] 31)) (Nat.lt_succ_self _) (heap_alloc_new w1 _)
  go_wp2_with fail
  refine (eqTextOut_same ⟨#[]⟩ 0 4 _).mono ?_
  rintro e w3 ⟨rfl, hb3⟩
  simp at hb3
  go_wp2_with fail
  go_ret
  exact ⟨rfl, law_below hb1 hb2 hb3⟩

set_option maxRecDepth 100000 in
set_option maxHeartbeats 800000 in
theorem getText_law_good (a0 : ByteArray) (q U m A N : Nat) (w : World) (hg : Laid w) (h1 : a0.size ≤ 1048576) (h2 : a0.size ≤ 20000) (hq : (q : Int) ≤ 9223372036854775807) (hd : decAt a0 q = (0, U, m)) (hA : (q : Int) + m = A) (hN : unfold U = (N : Int)) (hM : N ≤ 20000) (hS : A + N ≤ a0.size) :
    Calls Tryd.prog 4 #[.string a0, .int .i64 q] w fun e w' => e = .returned (.bool true) ∧ Below w.heap.size w w' := by
  have HG := hide hg
  clear hg
  have Hd := hide hd
  have HA := hide hA
  have HN := hide hN
  have HM := hide hM
  have HS := hide hS
  clear hd hA hN hM hS
  go_enter Tryd.func4, Tryd.ntmps4
  go_wp2_with fail
  refine (spec_getText_good a0 q U m A N _ h2 hq Hd.out HA.out HN.out HM.out HS.out).mono ?_
  rintro e w1 ⟨rfl, hb1⟩
  have HG1 := hide ((HG.out.below hb1 HG.out.pos).alloc (.cells #[.string (a0.extract A (A + N)), .int .i64 ((A : Int) + N), .int .i64 0] 31))
  unfold textOut
  go_wp2_with fail
  refine (impl_getText_good a0 q U m A N _ h2 hq Hd.out HA.out HN.out HM.out HS.out).mono ?_
  rintro e w2 ⟨rfl, hb2⟩
  simp at hb2
  unfold textOut
  have s2 := hb2.size
  simp at s2
  obtain ⟨⟨c0, c1, c2⟩, _⟩ := out_cells (hb2.alloc s2 (.cells #[.string (a0.extract A (A + N)), .int .i64 ((A : Int) + N), .int .i64 0] 31)) (Nat.lt_succ_self _) (heap_alloc_new w1 _)
  go_wp2_with fail
  refine (eqTextOut_same (a0.extract A (A + N)) ((A : Int) + N) 0 _).mono ?_
  rintro e w3 ⟨rfl, hb3⟩
  simp at hb3
  go_wp2_with fail
  go_ret
  exact ⟨rfl, law_below hb1 hb2 hb3⟩

set_option maxRecDepth 100000 in
set_option maxHeartbeats 400000 in
theorem fnExactGetText_walk (a0 : ByteArray) (w0 : a0.size ≤ maxLen) (a1 : Int) (w1 : (Lit.int .i64 a1).wf = true) (w : World) (hg : Laid w) :
    Calls Tryd.prog 4 #[.string a0, .int .i64 a1] w fun e w' => e = .returned (.bool true) ∧ Below w.heap.size w w' := by
  unfold maxLen at w0
  have hb := i64_of w1
  by_cases h1 : 1048576 < a0.size
  · clear hg w1
    go_enter Tryd.func4, Tryd.ntmps4
    go_wp2_with fail
    go_ret
    exact ⟨rfl, Below.refl _ _⟩
  by_cases h2 : 20000 < a0.size
  · exact getText_law_long a0 a1 w hg (by omega) h2
  by_cases h3 : a1 < 0
  · exact getText_law_neg a0 a1 w hg (by omega) (by omega) h3
  obtain ⟨q, rfl⟩ := Int.eq_ofNat_of_zero_le (show 0 ≤ a1 by omega)
  rcases decAt_form a0 q with ⟨U, m, hd, _⟩ | hd | hd
  · have hA := decAt_fits a0 q U m hd
    by_cases h4 : unfold U < 0
    · exact getText_law_low a0 q U m w hg (by omega) (by omega) hb.2 hd h4
    by_cases h5 : 20000 < unfold U
    · exact getText_law_high a0 q U m w hg (by omega) (by omega) hb.2 hd h5
    obtain ⟨N, hN⟩ := Int.eq_ofNat_of_zero_le (show 0 ≤ unfold U by omega)
    by_cases h6 : a0.size < q + m + N
    · exact getText_law_short a0 q U m (q + m) N w hg (by omega) (by omega) hb.2 hd (by omega) hA hN (by omega) h6
    · exact getText_law_good a0 q U m (q + m) N w hg (by omega) (by omega) hb.2 hd (by omega) hN (by omega) (by omega)
  · exact getText_law_bad a0 q 3 w hg (by omega) (by omega) hb.2 (by decide) hd
  · exact getText_law_bad a0 q 4 w hg (by omega) (by omega) hb.2 (by decide) hd
end Go.Proofs.YtiknoncalgifmaaDoor
