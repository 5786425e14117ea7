/- The walk over the program's GetNum. -/
import Derived.Test.YtiknoncalgifmaaDoorReadNum
import Derived.Test.YtiknoncalgifmaaDoorReadNeg
import Derived.Test.YtiknoncalgifmaaDoorCodeOf
namespace Go.Proofs.YtiknoncalgifmaaDoor
open Go.RowKit

/-- A NumOut. -/
def numOut (n a c : Int) : Value := .agg #[.int .i64 n, .int .i64 a, .int .i64 c]

theorem dec_form (l : List UInt8) : ∀ k u, (∃ U m, dec k u l = (0, U, m) ∧ m ≤ k + l.length) ∨ dec k u l = (3, 0, 0) ∨ dec k u l = (4, 0, 0) := by
  induction l with
  | nil => intro k u; exact .inr (.inr rfl)
  | cons b l ih =>
    intro k u
    rw [dec]
    split
    · exact .inr (.inl rfl)
    · split
      · split
        · exact .inr (.inl rfl)
        · exact .inl ⟨_, _, rfl, by simp⟩
      · rcases ih (k + 1) (u + b.toNat % 128 * 2 ^ (7 * k)) with ⟨U, m, h, hm⟩ | h | h
        · exact .inl ⟨U, m, h, by simp; omega⟩
        · exact .inr (.inl h)
        · exact .inr (.inr h)
theorem decAt_form (s : ByteArray) (q : Nat) : (∃ U m, decAt s q = (0, U, m) ∧ m ≤ s.size - q) ∨ decAt s q = (3, 0, 0) ∨ decAt s q = (4, 0, 0) := by
  rcases dec_form (s.data.toList.drop q) 0 0 with ⟨U, m, h, hm⟩ | h | h
  · exact .inl ⟨U, m, h, by simpa using hm⟩
  · exact .inr (.inl h)
  · exact .inr (.inr h)

set_option maxRecDepth 100000 in
set_option maxHeartbeats 800000 in
theorem impl_getNum_good (s : ByteArray) (q U m : Nat) (w : World) (hs : s.size ≤ 20000) (hq : (q : Int) ≤ 9223372036854775807) (hd : decAt s q = (0, U, m)) :
    Calls Tryd.prog 8 #[.string s, .int .i64 q] w fun e w' => e = .returned (numOut (unfold U) ((q : Int) + m) 0) ∧ Below w.heap.size w w' := by
  have HD := hide hd
  clear hd
  go_enter Tryd.func8, Tryd.ntmps8
  go_wp2_with fail
  refine (impl_readNum s q _ hs hq).mono ?_
  rintro e w1 ⟨rfl, rfl⟩
  rw [unhide HD, numRet_good]
  go_wp2_with fail
  refine (codeOf_nil _).mono ?_
  rintro e w1 ⟨rfl, hb⟩
  simp at hb
  obtain ⟨⟨c0, c1, c2⟩, hf⟩ := out_cells hb (Nat.lt_succ_self _) (heap_alloc_new w _)
  obtain ⟨r0, r1, r2⟩ := out_read (.int .i64 (unfold U)) (.int .i64 ((q : Int) + m)) (.int .i64 0) c0 c1 c2
  go_wp2_with fail
  exact bodyPost_ret (v := numOut (unfold U) ((q : Int) + m) 0) (by simp [results, Tryd.results8, go_sem, r0, r1, r2, numOut]) rfl ⟨rfl, below_out' hb⟩

set_option maxRecDepth 100000 in
set_option maxHeartbeats 800000 in
theorem impl_getNum_bad (s : ByteArray) (q c : Nat) (w : World) (hg : Laid w) (hs : s.size ≤ 20000) (hq : (q : Int) ≤ 9223372036854775807) (hc : c ≠ 0) (hd : decAt s q = (c, 0, 0)) :
    Calls Tryd.prog 8 #[.string s, .int .i64 q] w fun e w' => e = .returned (numOut 0 0 c) ∧ Below w.heap.size w w' := by
  have HD := hide hd
  have hg1 := hide (hg.alloc (.cells #[.int .i64 0, .int .i64 0, .int .i64 0] 26))
  have HC := hide hc
  clear hd hg hc
  go_enter Tryd.func8, Tryd.ntmps8
  go_wp2_with fail
  refine (impl_readNum s q _ hs hq).mono ?_
  rintro e w1 ⟨rfl, rfl⟩
  rw [unhide HD, numRet_bad q c HC.out]
  go_wp2_with fail
  refine (codeOf_fault _ _ hg1.out).mono ?_
  rintro e w1 ⟨rfl, hb⟩
  simp at hb
  obtain ⟨⟨c0, c1, c2⟩, hf⟩ := out_cells hb (Nat.lt_succ_self _) (heap_alloc_new w _)
  obtain ⟨r0, r1, r2⟩ := out_read (.int .i64 0) (.int .i64 0) (.int .i64 c) c0 c1 c2
  go_wp2_with fail
  exact bodyPost_ret (v := numOut 0 0 c) (by simp [results, Tryd.results8, go_sem, r0, r1, r2, numOut]) rfl ⟨rfl, below_out' hb⟩

set_option maxRecDepth 100000 in
set_option maxHeartbeats 800000 in
theorem impl_getNum_neg (s : ByteArray) (p : Int) (w : World) (hg : Laid w) (hs : s.size ≤ 20000) (hp : p < 0) :
    Calls Tryd.prog 8 #[.string s, .int .i64 p] w fun e w' => e = .returned (numOut 0 0 1) ∧ Below w.heap.size w w' := by
  have hg1 := hide (hg.alloc (.cells #[.int .i64 0, .int .i64 0, .int .i64 0] 26))
  clear hg
  go_enter Tryd.func8, Tryd.ntmps8
  go_wp2_with fail
  refine (impl_readNum_neg s p _ hp).mono ?_
  rintro e w1 ⟨rfl, rfl⟩
  go_wp2_with fail
  refine (codeOf_fault _ _ hg1.out).mono ?_
  rintro e w1 ⟨rfl, hb⟩
  simp at hb
  obtain ⟨⟨c0, c1, c2⟩, hf⟩ := out_cells hb (Nat.lt_succ_self _) (heap_alloc_new w _)
  obtain ⟨r0, r1, r2⟩ := out_read (.int .i64 0) (.int .i64 0) (.int .i64 1) c0 c1 c2
  go_wp2_with fail
  exact bodyPost_ret (v := numOut 0 0 1) (by simp [results, Tryd.results8, go_sem, r0, r1, r2, numOut]) rfl ⟨rfl, below_out' hb⟩

set_option maxRecDepth 100000 in
set_option maxHeartbeats 400000 in
theorem impl_getNum_long (s : ByteArray) (p : Int) (w : World) (hs : s.size ≤ 9223372036854775807) (h : 20000 < s.size) :
    Calls Tryd.prog 8 #[.string s, .int .i64 p] w fun e w' => e = .returned (numOut 0 0 2) ∧ Below w.heap.size w w' := by
  go_enter Tryd.func8, Tryd.ntmps8
  go_wp2_with fail
  go_returns
  exact ⟨rfl, by go_grown⟩
end Go.Proofs.YtiknoncalgifmaaDoor
