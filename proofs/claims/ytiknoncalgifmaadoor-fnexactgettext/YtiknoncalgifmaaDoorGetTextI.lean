/- The walks over the program's readText and GetText. -/
import Derived.Test.YtiknoncalgifmaaDoorGetNumI
import Derived.Test.YtiknoncalgifmaaDoorJoinedT
namespace Go.Proofs.YtiknoncalgifmaaDoor
open Go.RowKit

/-- A TextOut. -/
def textOut (t : ByteArray) (n c : Int) : Value := .agg #[.string t, .int .i64 n, .int .i64 c]
/-- What readText hands back where it is refused. -/
def faultRet (c : Int) : Value := .tuple #[.string ⟨#[]⟩, .int .i64 0, .iface 55 (.agg #[.int .i64 c])]

theorem dec_many (l : List UInt8) : ∀ k u U m, dec k u l = (0, U, m) → k + 1 ≤ m := by
  induction l with
  | nil => intro k u U m h; simp [dec] at h
  | cons b l ih =>
    intro k u U m h
    rw [dec] at h
    split at h
    · simp at h
    · split at h
      · split at h
        · simp at h
        · simp at h; omega
      · have := ih _ _ _ _ h; omega
theorem decAt_fits (s : ByteArray) (q U m : Nat) (h : decAt s q = (0, U, m)) : q + m ≤ s.size := by
  have h1 := dec_many _ _ _ _ _ h
  rcases decAt_form s q with ⟨U', m', h', hm⟩ | h' | h'
  · rw [h'] at h; simp at h; omega
  · rw [h'] at h; simp at h
  · rw [h'] at h; simp at h

set_option maxRecDepth 100000 in
set_option maxHeartbeats 800000 in
theorem impl_readText_neg (s : ByteArray) (p : Int) (w : World) (hp : p < 0) :
    Calls Tryd.prog 24 #[.string s, .int .i64 p] w fun e w' => e = .returned (faultRet 1) ∧ w = w' := by
  go_enter Tryd.func24, Tryd.ntmps24
  go_wp2_with fail
  refine (impl_readNum_neg s p _ hp).mono ?_
  rintro e w1 ⟨rfl, rfl⟩
  go_wp2_with fail
  go_ret3
  exact ⟨rfl, rfl⟩

set_option maxRecDepth 100000 in
set_option maxHeartbeats 800000 in
theorem impl_readText_bad (s : ByteArray) (q c : Nat) (w : World) (hs : s.size ≤ 20000) (hq : (q : Int) ≤ 9223372036854775807) (hc : c ≠ 0) (hd : decAt s q = (c, 0, 0)) :
    Calls Tryd.prog 24 #[.string s, .int .i64 q] w fun e w' => e = .returned (faultRet c) ∧ w = w' := by
  have HD := hide hd
  have HC := hide hc
  clear hd hc
  go_enter Tryd.func24, Tryd.ntmps24
  go_wp2_with fail
  refine (impl_readNum s q _ hs hq).mono ?_
  rintro e w1 ⟨rfl, rfl⟩
  rw [unhide HD, numRet_bad q c HC.out]
  go_wp2_with fail
  go_ret3
  exact ⟨rfl, rfl⟩

set_option maxRecDepth 100000 in
set_option maxHeartbeats 800000 in
theorem impl_readText_range (s : ByteArray) (q U m : Nat) (w : World) (hs : s.size ≤ 20000) (hq : (q : Int) ≤ 9223372036854775807) (hd : decAt s q = (0, U, m)) (hN : unfold U < 0 ∨ 20000 < unfold U) :
    Calls Tryd.prog 24 #[.string s, .int .i64 q] w fun e w' => e = .returned (faultRet 3) ∧ w = w' := by
  have HD := hide hd
  clear hd
  generalize hn : unfold U = n at *
  have HN := hide hn
  clear hn
  rcases (show n < 0 ∨ (0 ≤ n ∧ 20000 < n) from by omega) with h | ⟨h0, h⟩
  all_goals
    clear hN
    go_enter Tryd.func24, Tryd.ntmps24
    go_wp2_with fail
    refine (impl_readNum s q _ hs hq).mono ?_
    rintro e w1 ⟨rfl, rfl⟩
    rw [unhide HD, numRet_good, unhide HN]
    go_wp2_with fail
    go_ret3
    exact ⟨rfl, rfl⟩

set_option maxRecDepth 100000 in
set_option maxHeartbeats 800000 in
theorem impl_readText_short (s : ByteArray) (q U m A N : Nat) (w : World) (hs : s.size ≤ 20000) (hq : (q : Int) ≤ 9223372036854775807) (hd : decAt s q = (0, U, m)) (hA : (q : Int) + m = A) (hAs : A ≤ s.size) (hN : unfold U = (N : Int)) (hNm : N ≤ 20000) (hsh : s.size < A + N) :
    Calls Tryd.prog 24 #[.string s, .int .i64 q] w fun e w' => e = .returned (faultRet 4) ∧ w = w' := by
  have HD := hide hd
  have HA := hide hA
  have HN := hide hN
  have hsh' : (s.size : Int) - A < (N : Int) := by omega
  clear hd hA hN
  go_enter Tryd.func24, Tryd.ntmps24
  go_wp2_with fail
  refine (impl_readNum s q _ hs hq).mono ?_
  rintro e w1 ⟨rfl, rfl⟩
  rw [unhide HD, numRet_good, unhide HN, unhide HA]
  go_wp2_with fail
  go_ret3
  exact ⟨rfl, rfl⟩

set_option maxRecDepth 100000 in
set_option maxHeartbeats 800000 in
theorem impl_readText_good (s : ByteArray) (q U m A N : Nat) (w : World) (hs : s.size ≤ 20000) (hq : (q : Int) ≤ 9223372036854775807) (hd : decAt s q = (0, U, m)) (hA : (q : Int) + m = A) (hN : unfold U = (N : Int)) (hNm : N ≤ 20000) (hsh : A + N ≤ s.size) :
    Calls Tryd.prog 24 #[.string s, .int .i64 q] w fun e w' => e = .returned (.tuple #[.string (s.extract A (A + N)), .int .i64 ((A : Int) + N), .nilIface]) ∧ Below w.heap.size w w' := by
  have HD := hide hd
  have HA := hide hA
  have HN := hide hN
  have hsh' : (N : Int) ≤ (s.size : Int) - A := by omega
  have hsh2 : (A : Int) + N ≤ (s.size : Int) := by omega
  clear hd hA hN
  go_enter Tryd.func24, Tryd.ntmps24
  go_wp2_with fail
  refine (impl_readNum s q _ hs hq).mono ?_
  rintro e w1 ⟨rfl, rfl⟩
  rw [unhide HD, numRet_good, unhide HN, unhide HA]
  go_wp2_with fail
  refine (joined_one (s.extract A (A + N)) _ _ ?_ ?_).mono ?_
  · rfl
  · simp; omega
  rintro e w1 ⟨rfl, hb⟩
  go_wp2_with fail
  go_ret3
  exact ⟨rfl, hb⟩
end Go.Proofs.YtiknoncalgifmaaDoor
