/- The walks over the program's GetText. -/
import Derived.Test.YtiknoncalgifmaaDoorGetTextI
namespace Go.Proofs.YtiknoncalgifmaaDoor
open Go.RowKit

set_option maxRecDepth 100000 in
set_option maxHeartbeats 800000 in
theorem impl_getText_neg (s : ByteArray) (p : Int) (w : World) (hg : Laid w) (hs : s.size ≤ 20000) (hp : p < 0) :
    Calls Tryd.prog 12 #[.string s, .int .i64 p] w fun e w' => e = .returned (textOut ⟨#[]⟩ 0 1) ∧ Below w.heap.size w w' := by
  have hg1 := hide (hg.alloc (.cells #[.string ⟨#[]⟩, .int .i64 0, .int .i64 0] 31))
  clear hg
  have Hp := hide hp
  clear hp
  go_enter Tryd.func12, Tryd.ntmps12
  go_wp2_with fail
  refine (impl_readText_neg s p _ Hp.out).mono ?_
  rintro e w1 ⟨rfl, rfl⟩
  unfold faultRet
  go_wp2_with fail
  refine (codeOf_fault _ _ hg1.out).mono ?_
  rintro e w1 ⟨rfl, hb⟩
  simp at hb
  obtain ⟨⟨c0, c1, c2⟩, hf⟩ := out_cells hb (Nat.lt_succ_self _) (heap_alloc_new w _)
  obtain ⟨r0, r1, r2⟩ := out_read (.string ⟨#[]⟩) (.int .i64 0) (.int .i64 1) c0 c1 c2
  go_wp2_with fail
  exact bodyPost_ret (v := textOut ⟨#[]⟩ 0 1) (by simp [results, Tryd.results12, go_sem, r0, r1, r2, textOut]) rfl ⟨rfl, below_out' hb⟩

set_option maxRecDepth 100000 in
set_option maxHeartbeats 800000 in
theorem impl_getText_bad (s : ByteArray) (q c : Nat) (w : World) (hg : Laid w) (hs : s.size ≤ 20000) (hq : (q : Int) ≤ 9223372036854775807) (hc : c ≠ 0) (hd : decAt s q = (c, 0, 0)) :
    Calls Tryd.prog 12 #[.string s, .int .i64 q] w fun e w' => e = .returned (textOut ⟨#[]⟩ 0 c) ∧ Below w.heap.size w w' := by
  have hg1 := hide (hg.alloc (.cells #[.string ⟨#[]⟩, .int .i64 0, .int .i64 0] 31))
  clear hg
  have Hc := hide hc
  have Hd := hide hd
  clear hc hd
  go_enter Tryd.func12, Tryd.ntmps12
  go_wp2_with fail
  refine (impl_readText_bad s q c _ hs hq Hc.out Hd.out).mono ?_
  rintro e w1 ⟨rfl, rfl⟩
  unfold faultRet
  go_wp2_with fail
  refine (codeOf_fault _ _ hg1.out).mono ?_
  rintro e w1 ⟨rfl, hb⟩
  simp at hb
  obtain ⟨⟨c0, c1, c2⟩, hf⟩ := out_cells hb (Nat.lt_succ_self _) (heap_alloc_new w _)
  obtain ⟨r0, r1, r2⟩ := out_read (.string ⟨#[]⟩) (.int .i64 0) (.int .i64 c) c0 c1 c2
  go_wp2_with fail
  exact bodyPost_ret (v := textOut ⟨#[]⟩ 0 c) (by simp [results, Tryd.results12, go_sem, r0, r1, r2, textOut]) rfl ⟨rfl, below_out' hb⟩

set_option maxRecDepth 100000 in
set_option maxHeartbeats 800000 in
theorem impl_getText_range (s : ByteArray) (q U m : Nat) (w : World) (hg : Laid w) (hs : s.size ≤ 20000) (hq : (q : Int) ≤ 9223372036854775807) (hd : decAt s q = (0, U, m)) (hN : unfold U < 0 ∨ 20000 < unfold U) :
    Calls Tryd.prog 12 #[.string s, .int .i64 q] w fun e w' => e = .returned (textOut ⟨#[]⟩ 0 3) ∧ Below w.heap.size w w' := by
  have hg1 := hide (hg.alloc (.cells #[.string ⟨#[]⟩, .int .i64 0, .int .i64 0] 31))
  clear hg
  have Hd := hide hd
  have HN := hide hN
  clear hd hN
  go_enter Tryd.func12, Tryd.ntmps12
  go_wp2_with fail
  refine (impl_readText_range s q U m _ hs hq Hd.out HN.out).mono ?_
  rintro e w1 ⟨rfl, rfl⟩
  unfold faultRet
  go_wp2_with fail
  refine (codeOf_fault _ _ hg1.out).mono ?_
  rintro e w1 ⟨rfl, hb⟩
  simp at hb
  obtain ⟨⟨c0, c1, c2⟩, hf⟩ := out_cells hb (Nat.lt_succ_self _) (heap_alloc_new w _)
  obtain ⟨r0, r1, r2⟩ := out_read (.string ⟨#[]⟩) (.int .i64 0) (.int .i64 3) c0 c1 c2
  go_wp2_with fail
  exact bodyPost_ret (v := textOut ⟨#[]⟩ 0 3) (by simp [results, Tryd.results12, go_sem, r0, r1, r2, textOut]) rfl ⟨rfl, below_out' hb⟩

set_option maxRecDepth 100000 in
set_option maxHeartbeats 800000 in
theorem impl_getText_short (s : ByteArray) (q U m A N : Nat) (w : World) (hg : Laid w) (hs : s.size ≤ 20000) (hq : (q : Int) ≤ 9223372036854775807) (hd : decAt s q = (0, U, m)) (hA : (q : Int) + m = A) (hAs : A ≤ s.size) (hN : unfold U = (N : Int)) (hM : N ≤ 20000) (hS : s.size < A + N) :
    Calls Tryd.prog 12 #[.string s, .int .i64 q] w fun e w' => e = .returned (textOut ⟨#[]⟩ 0 4) ∧ Below w.heap.size w w' := by
  have hg1 := hide (hg.alloc (.cells #[.string ⟨#[]⟩, .int .i64 0, .int .i64 0] 31))
  clear hg
  have Hd := hide hd
  have HA := hide hA
  have HAs := hide hAs
  have HN := hide hN
  have HM := hide hM
  have HS := hide hS
  clear hd hA hAs hN hM hS
  go_enter Tryd.func12, Tryd.ntmps12
  go_wp2_with fail
  refine (impl_readText_short s q U m A N _ hs hq Hd.out HA.out HAs.out HN.out HM.out HS.out).mono ?_
  rintro e w1 ⟨rfl, rfl⟩
  unfold faultRet
  go_wp2_with fail
  refine (codeOf_fault _ _ hg1.out).mono ?_
  rintro e w1 ⟨rfl, hb⟩
  simp at hb
  obtain ⟨⟨c0, c1, c2⟩, hf⟩ := out_cells hb (Nat.lt_succ_self _) (heap_alloc_new w _)
  obtain ⟨r0, r1, r2⟩ := out_read (.string ⟨#[]⟩) (.int .i64 0) (.int .i64 4) c0 c1 c2
  go_wp2_with fail
  exact bodyPost_ret (v := textOut ⟨#[]⟩ 0 4) (by simp [results, Tryd.results12, go_sem, r0, r1, r2, textOut]) rfl ⟨rfl, below_out' hb⟩

set_option maxRecDepth 100000 in
set_option maxHeartbeats 800000 in
theorem impl_getText_good (s : ByteArray) (q U m A N : Nat) (w : World) (hs : s.size ≤ 20000) (hq : (q : Int) ≤ 9223372036854775807) (hd : decAt s q = (0, U, m)) (hA : (q : Int) + m = A) (hN : unfold U = (N : Int)) (hM : N ≤ 20000) (hS : A + N ≤ s.size) :
    Calls Tryd.prog 12 #[.string s, .int .i64 q] w fun e w' => e = .returned (textOut (s.extract A (A + N)) ((A : Int) + N) 0) ∧ Below w.heap.size w w' := by
  have Hd := hide hd
  have HA := hide hA
  have HN := hide hN
  have HM := hide hM
  have HS := hide hS
  clear hd hA hN hM hS
  go_enter Tryd.func12, Tryd.ntmps12
  go_wp2_with fail
  refine (impl_readText_good s q U m A N _ hs hq Hd.out HA.out HN.out HM.out HS.out).mono ?_
  rintro e w1 ⟨rfl, hb⟩
  simp at hb
  generalize ht : s.extract A (A + N) = t
  have HT := hide ht
  clear ht
  go_wp2_with fail
  refine (codeOf_nil _).mono ?_
  rintro e w2 ⟨rfl, hb2⟩
  have hb3 := hb.trans (hb2.mono (by have := hb.size; simp at this; omega))
  clear hb hb2
  obtain ⟨⟨c0, c1, c2⟩, hf⟩ := out_cells hb3 (Nat.lt_succ_self _) (heap_alloc_new w _)
  obtain ⟨r0, r1, r2⟩ := out_read (.string t) (.int .i64 ((A : Int) + N)) (.int .i64 0) c0 c1 c2
  go_wp2_with fail
  exact bodyPost_ret (v := textOut t ((A : Int) + N) 0) (by simp [results, Tryd.results12, go_sem, r0, r1, r2, textOut]) rfl ⟨by rw [unhide HT], below_out' hb3⟩
set_option maxRecDepth 100000 in
set_option maxHeartbeats 400000 in
theorem impl_getText_long (s : ByteArray) (p : Int) (w : World) (hs : s.size ≤ 9223372036854775807) (h : 20000 < s.size) :
    Calls Tryd.prog 12 #[.string s, .int .i64 p] w fun e w' => e = .returned (textOut ⟨#[]⟩ 0 2) ∧ Below w.heap.size w w' := by
  go_enter Tryd.func12, Tryd.ntmps12
  go_wp2_with fail
  go_returns
  exact ⟨rfl, by go_grown⟩
end Go.Proofs.YtiknoncalgifmaaDoor
