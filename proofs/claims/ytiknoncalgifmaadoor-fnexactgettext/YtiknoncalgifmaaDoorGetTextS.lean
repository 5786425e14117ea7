/- The walks over the model's GetText. -/
import Derived.Test.YtiknoncalgifmaaDoorGetTextG
import Derived.Test.YtiknoncalgifmaaDoorGetNumS
import Derived.Deep.RegionWith
import Derived.BigRegion
namespace Go.Proofs.YtiknoncalgifmaaDoor
open Go.RowKit


theorem run_mid {P : Program} (w : World) (t : TypeId) (s : ByteArray) (A N : Nat) (h : P.underlying t = some .string) (hS : A + N ≤ s.size) :
    (Instr.slice t (.string s) (some (.int .i64 (A : Int))) (some (.int .i64 ((A : Int) + N))) none).run P w = .ok (.string (s.extract A (A + N))) w := by
  rw [run_slice_string w t s .i64 .i64 _ _ h (by omega) (by omega) (by omega)]
  have e : ((A : Int) + N).toNat = A + N := by omega
  rw [e, Int.toNat_natCast]

set_option maxRecDepth 100000 in
set_option maxHeartbeats 800000 in
theorem spec_getText_long (s : ByteArray) (p : Int) (w : World) (hs : s.size ≤ 9223372036854775807) (h : 20000 < s.size) :
    Calls Tryd.prog 13 #[.string s, .int .i64 p] w fun e w' => e = .returned (textOut ⟨#[]⟩ 0 2) ∧ Below w.heap.size w w' := by
  go_enter Tryd.func13, Tryd.ntmps13
  go_wp2_with fail
  refine (spec_getNum_long s p _ hs h).mono ?_
  rintro e w1 ⟨rfl, hb⟩
  unfold numOut
  simp at hb
  have hs1 := hb.size
  simp at hs1
  obtain ⟨⟨c0, c1, c2⟩, hf⟩ := out_cells (hb.alloc hs1 (.cells #[.int .i64 0, .int .i64 0, .int .i64 2] 26)) (Nat.lt_succ_self _) (heap_alloc_new w _)
  obtain ⟨r0, r1, r2⟩ := out_read (.string ⟨#[]⟩) (.int .i64 0) (.int .i64 2) c0 c1 c2
  go_wp2_with fail
  exact bodyPost_ret (v := textOut ⟨#[]⟩ 0 2) (by simp [results, Tryd.results13, go_sem, r0, r1, r2, textOut]) rfl ⟨rfl, below_out' (hb.alloc hs1 _)⟩

set_option maxRecDepth 100000 in
set_option maxHeartbeats 800000 in
theorem spec_getText_neg (s : ByteArray) (p : Int) (w : World) (hs : s.size ≤ 20000) (h : p < 0) :
    Calls Tryd.prog 13 #[.string s, .int .i64 p] w fun e w' => e = .returned (textOut ⟨#[]⟩ 0 1) ∧ Below w.heap.size w w' := by
  go_enter Tryd.func13, Tryd.ntmps13
  go_wp2_with fail
  refine (spec_getNum_neg s p _ hs h).mono ?_
  rintro e w1 ⟨rfl, hb⟩
  unfold numOut
  simp at hb
  have hs1 := hb.size
  simp at hs1
  obtain ⟨⟨c0, c1, c2⟩, hf⟩ := out_cells (hb.alloc hs1 (.cells #[.int .i64 0, .int .i64 0, .int .i64 1] 26)) (Nat.lt_succ_self _) (heap_alloc_new w _)
  obtain ⟨r0, r1, r2⟩ := out_read (.string ⟨#[]⟩) (.int .i64 0) (.int .i64 1) c0 c1 c2
  go_wp2_with fail
  exact bodyPost_ret (v := textOut ⟨#[]⟩ 0 1) (by simp [results, Tryd.results13, go_sem, r0, r1, r2, textOut]) rfl ⟨rfl, below_out' (hb.alloc hs1 _)⟩

set_option maxRecDepth 100000 in
set_option maxHeartbeats 800000 in
theorem spec_getText_bad (s : ByteArray) (q c : Nat) (w : World) (hs : s.size ≤ 20000) (hq : (q : Int) ≤ 9223372036854775807) (hc : c ≠ 0) (hd : decAt s q = (c, 0, 0)) :
    Calls Tryd.prog 13 #[.string s, .int .i64 q] w fun e w' => e = .returned (textOut ⟨#[]⟩ 0 c) ∧ Below w.heap.size w w' := by
  have hc0 : ((c : Int) != 0) = true := by simp; omega
  have hc1 : ((c : Int) == 0) = false := by simp; omega
  have Hc := hide hc
  have Hd := hide hd
  clear hc hd
  go_enter Tryd.func13, Tryd.ntmps13
  go_wp2_with fail
  refine (spec_getNum s q _ hs hq).mono ?_
  rintro e w1 ⟨rfl, hb⟩
  rw [unhide Hd, numAns_bad q c Hc.out]
  unfold numOut
  simp at hb
  have hs1 := hb.size
  simp at hs1
  obtain ⟨⟨c0, c1, c2⟩, hf⟩ := out_cells (hb.alloc hs1 (.cells #[.int .i64 0, .int .i64 0, .int .i64 c] 26)) (Nat.lt_succ_self _) (heap_alloc_new w _)
  obtain ⟨r0, r1, r2⟩ := out_read (.string ⟨#[]⟩) (.int .i64 0) (.int .i64 c) c0 c1 c2
  go_wp2_with fail
  exact bodyPost_ret (v := textOut ⟨#[]⟩ 0 c) (by simp [results, Tryd.results13, go_sem, r0, r1, r2, textOut]) rfl ⟨rfl, below_out' (hb.alloc hs1 _)⟩

set_option maxRecDepth 100000 in
set_option maxHeartbeats 800000 in
theorem spec_getText_range_low (s : ByteArray) (q U m : Nat) (n : Int) (w : World) (hs : s.size ≤ 20000) (hq : (q : Int) ≤ 9223372036854775807) (hd : decAt s q = (0, U, m)) (hN : unfold U = n) (hn0 : n < 0) :
    Calls Tryd.prog 13 #[.string s, .int .i64 q] w fun e w' => e = .returned (textOut ⟨#[]⟩ 0 3) ∧ Below w.heap.size w w' := by
  have Hd := hide hd
  have HN := hide hN
  clear hd hN
  go_enter Tryd.func13, Tryd.ntmps13
  go_wp2_with fail
  refine (spec_getNum s q _ hs hq).mono ?_
  rintro e w1 ⟨rfl, hb⟩
  rw [unhide Hd, numAns_good, unhide HN]
  unfold numOut
  simp at hb
  have hs1 := hb.size
  simp at hs1
  obtain ⟨⟨c0, c1, c2⟩, hf⟩ := out_cells (hb.alloc hs1 (.cells #[.int .i64 n, .int .i64 ((q : Int) + m), .int .i64 0] 26)) (Nat.lt_succ_self _) (heap_alloc_new w _)
  obtain ⟨r0, r1, r2⟩ := out_read (.string ⟨#[]⟩) (.int .i64 0) (.int .i64 3) c0 c1 c2
  go_wp2_with fail
  exact bodyPost_ret (v := textOut ⟨#[]⟩ 0 3) (by simp [results, Tryd.results13, go_sem, r0, r1, r2, textOut]) rfl ⟨rfl, below_out' (hb.alloc hs1 _)⟩

set_option maxRecDepth 100000 in
set_option maxHeartbeats 800000 in
theorem spec_getText_range_high (s : ByteArray) (q U m : Nat) (n : Int) (w : World) (hs : s.size ≤ 20000) (hq : (q : Int) ≤ 9223372036854775807) (hd : decAt s q = (0, U, m)) (hN : unfold U = n) (hn0 : 0 ≤ n) (hn1 : 20000 < n) :
    Calls Tryd.prog 13 #[.string s, .int .i64 q] w fun e w' => e = .returned (textOut ⟨#[]⟩ 0 3) ∧ Below w.heap.size w w' := by
  have Hd := hide hd
  have HN := hide hN
  clear hd hN
  go_enter Tryd.func13, Tryd.ntmps13
  go_wp2_with fail
  refine (spec_getNum s q _ hs hq).mono ?_
  rintro e w1 ⟨rfl, hb⟩
  rw [unhide Hd, numAns_good, unhide HN]
  unfold numOut
  simp at hb
  have hs1 := hb.size
  simp at hs1
  obtain ⟨⟨c0, c1, c2⟩, hf⟩ := out_cells (hb.alloc hs1 (.cells #[.int .i64 n, .int .i64 ((q : Int) + m), .int .i64 0] 26)) (Nat.lt_succ_self _) (heap_alloc_new w _)
  obtain ⟨r0, r1, r2⟩ := out_read (.string ⟨#[]⟩) (.int .i64 0) (.int .i64 3) c0 c1 c2
  go_wp2_with fail
  exact bodyPost_ret (v := textOut ⟨#[]⟩ 0 3) (by simp [results, Tryd.results13, go_sem, r0, r1, r2, textOut]) rfl ⟨rfl, below_out' (hb.alloc hs1 _)⟩

set_option maxRecDepth 100000 in
set_option maxHeartbeats 800000 in
theorem spec_getText_short (s : ByteArray) (q U m A N : Nat) (w : World) (hs : s.size ≤ 20000) (hq : (q : Int) ≤ 9223372036854775807) (hd : decAt s q = (0, U, m)) (hA : (q : Int) + m = A) (hAs : A ≤ s.size) (hN : unfold U = (N : Int)) (hM : N ≤ 20000) (hS : s.size < A + N) :
    Calls Tryd.prog 13 #[.string s, .int .i64 q] w fun e w' => e = .returned (textOut ⟨#[]⟩ 0 4) ∧ Below w.heap.size w w' := by
  have hS2 : (s.size : Int) - N < (A : Int) := by omega
  have Hd := hide hd
  have HA := hide hA
  have HN := hide hN
  clear hd hA hN
  go_enter Tryd.func13, Tryd.ntmps13
  go_wp2_with fail
  refine (spec_getNum s q _ hs hq).mono ?_
  rintro e w1 ⟨rfl, hb⟩
  rw [unhide Hd, numAns_good, unhide HN, unhide HA]
  unfold numOut
  simp at hb
  have hs1 := hb.size
  simp at hs1
  obtain ⟨⟨c0, c1, c2⟩, hf⟩ := out_cells (hb.alloc hs1 (.cells #[.int .i64 N, .int .i64 A, .int .i64 0] 26)) (Nat.lt_succ_self _) (heap_alloc_new w _)
  obtain ⟨r0, r1, r2⟩ := out_read (.string ⟨#[]⟩) (.int .i64 0) (.int .i64 4) c0 c1 c2
  go_wp2_with fail
  exact bodyPost_ret (v := textOut ⟨#[]⟩ 0 4) (by simp [results, Tryd.results13, go_sem, r0, r1, r2, textOut]) rfl ⟨rfl, below_out' (hb.alloc hs1 _)⟩

set_option maxRecDepth 100000 in
set_option maxHeartbeats 800000 in
theorem spec_getText_good (s : ByteArray) (q U m A N : Nat) (w : World) (hs : s.size ≤ 20000) (hq : (q : Int) ≤ 9223372036854775807) (hd : decAt s q = (0, U, m)) (hA : (q : Int) + m = A) (hN : unfold U = (N : Int)) (hM : N ≤ 20000) (hS : A + N ≤ s.size) :
    Calls Tryd.prog 13 #[.string s, .int .i64 q] w fun e w' => e = .returned (textOut (s.extract A (A + N)) ((A : Int) + N) 0) ∧ Below w.heap.size w w' := by
  have hS2 : (A : Int) ≤ (s.size : Int) - N := by omega
  have Hd := hide hd
  have HA := hide hA
  have HN := hide hN
  clear hd hA hN
  go_enter Tryd.func13, Tryd.ntmps13
  go_wp2_with fail
  refine (spec_getNum s q _ hs hq).mono ?_
  rintro e w1 ⟨rfl, hb⟩
  rw [unhide Hd, numAns_good, unhide HN, unhide HA]
  unfold numOut
  simp at hb
  have hs1 := hb.size
  simp at hs1
  obtain ⟨⟨c0, c1, c2⟩, hf⟩ := out_cells (hb.alloc hs1 (.cells #[.int .i64 N, .int .i64 A, .int .i64 0] 26)) (Nat.lt_succ_self _) (heap_alloc_new w _)
  go_wp2_with fail
  have hwr : IntKind.i64.wrap ((A : Int) + N) = (A : Int) + N := by rw [IntKind.wrap_i64]; omega
  have hsl := fun W => run_mid (P := Tryd.prog) W 9 s A N Tryd.underlying9 hS
  generalize ht : s.extract A (A + N) = t at *
  have HT := hide ht
  clear ht
  obtain ⟨r0, r1, r2⟩ := out_read (.string t) (.int .i64 ((A : Int) + N)) (.int .i64 0) c0 c1 c2
  go_region
  go_wp2_with fail
  exact bodyPost_ret (v := textOut t ((A : Int) + N) 0) (by simp [results, Tryd.results13, go_sem, r0, r1, r2, textOut]) rfl ⟨by rw [unhide HT], (below_out' (hb.alloc hs1 _)).drew⟩

end Go.Proofs.YtiknoncalgifmaaDoor
