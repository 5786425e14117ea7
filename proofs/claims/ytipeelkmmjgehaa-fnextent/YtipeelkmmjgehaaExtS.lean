/- The walks over the model's l09Sectors, SectorsOf, ExtentRight. -/
import Derived.Test.YtipeelkmmjgehaaDskB
import Derived.BigQuiet
import Derived.Deep.QuietTactic
namespace Go.Proofs.Ytipeelkmmjgehaa
open Go Go.RowKit
/-- How many sectors so many bytes have. -/
def secsOf (m : Int) : Int := if m < 0 ∨ 20000 < m then 0 else (((m.toNat + 63) / 64 : Nat) : Int)
/-- An extent that is right. -/
def extOk (a m n : Int) : Prop := 0 ≤ n ∧ n ≤ 620 ∧ 0 ≤ a ∧ 0 ≤ m ∧ m ≤ 20000 ∧ a ≤ n - (((m.toNat + 63) / 64 : Nat) : Int)
theorem below_drewN {B : Nat} {a w : World} (h : Below B a w) (n : Nat) : Below B a (w.drewN n) := h.trans ⟨rfl, rfl, rfl, Nat.le_refl _, fun _ _ => rfl⟩
theorem spec_sectors (n : Nat) (w : World) (hn : n ≤ 1048576) :
    Calls Try.prog 42 #[.int .i64 (n : Int)] w fun e w' => e = .returned (.int .i64 (((n + 63) / 64 : Nat) : Int)) ∧ w' = w := by
  obtain ⟨q, hq⟩ : ∃ q, q = (n + 63) / 64 := ⟨_, rfl⟩
  rw [← hq]
  have h0 : (n : Int) + 64 - 1 = ((n + 63 : Nat) : Int) := by omega
  have h1 : Int.tdiv ((n : Int) + 64 - 1) 64 = (q : Int) := by rw [h0, hq]; rfl
  go_enter Try.func42, Try.ntmps42
  go_wp2_with fail
  go_ret
  exact ⟨by first | rfl | (simp; omega), rfl⟩
set_option maxHeartbeats 800000 in
theorem spec_sectorsOf (m : Int) (w : World) :
    Calls Try.prog 19 #[.int .i64 m] w fun e w' => e = .returned (.int .i64 (secsOf m)) ∧ w' = w := by
  by_cases b1 : m < 0
  · have d1 : decide (m < 0) = true := decide_eq_true b1
    have R := hide (show secsOf m = 0 from if_pos (.inl b1))
    clear b1
    go_enter Try.func19, Try.ntmps19
    go_wp2_with fail
    go_ret
    exact ⟨by rw [R.out]; rfl, rfl⟩
  have d1 : decide (m < 0) = false := decide_eq_false b1
  by_cases b2 : 20000 < m
  · have d2 : decide (20000 < m) = true := decide_eq_true b2
    have R := hide (show secsOf m = 0 from if_pos (.inr b2))
    clear b1 b2
    go_enter Try.func19, Try.ntmps19
    go_wp2_with fail
    go_ret
    exact ⟨by rw [R.out]; rfl, rfl⟩
  have d2 : decide (20000 < m) = false := decide_eq_false b2
  obtain ⟨k, rfl⟩ : ∃ k : Nat, m = (k : Int) := ⟨m.toNat, by omega⟩
  have hk : k ≤ 20000 := by omega
  have R := hide (show secsOf (k : Int) = (((k + 63) / 64 : Nat) : Int) from by unfold secsOf; rw [if_neg (by omega)]; simp)
  clear b1 b2
  have hc := spec_sectors k w (by omega)
  obtain ⟨q, hq⟩ : ∃ q, q = (k + 63) / 64 := ⟨_, rfl⟩
  rw [← hq] at hc R
  have HC := hide hc
  clear hc hq
  go_enter Try.func19, Try.ntmps19
  go_wp2_with fail
  refine HC.out.mono ?_
  rintro e w1 ⟨rfl, rfl⟩
  go_wp2_with fail
  go_ret
  exact ⟨by rw [R.out]; rfl, rfl⟩
set_option maxRecDepth 100000 in
set_option maxHeartbeats 1600000 in
theorem spec_extentRight (a m n : Int) (w : World) :
    Calls Try.prog 20 #[.agg #[.int .i64 a, .int .i64 m], .int .i64 n] w fun e w' => tells e (extOk a m n) ∧ Below w.heap.size w w' := by
  have q0 := hide ((Below.refl w.heap.size w).alloc (Nat.le_refl _) (.cells #[.int .i64 a, .int .i64 m] 34))
  by_cases b0 : 0 ≤ n
  case neg =>
    have d0 : decide ((0 : Int) ≤ n) = false := decide_eq_false b0
    have R := hide (show ¬ extOk a m n from fun h => b0 (by unfold extOk at h; omega))
    clear b0
    go_enter Try.func20, Try.ntmps20
    go_wp2_with fail
    go_quiet (fail)
    go_wp2_with fail
    go_ret
    exact ⟨⟨false, rfl, ⟨(fun h => by cases h), fun h => absurd h R.out⟩⟩, below_drewN q0.out _⟩
  have d0 : decide ((0 : Int) ≤ n) = true := decide_eq_true b0
  by_cases b1 : n ≤ 620
  case neg =>
    have d1 : decide (n ≤ 620) = false := decide_eq_false b1
    have R := hide (show ¬ extOk a m n from fun h => b1 (by unfold extOk at h; omega))
    clear b0 b1
    go_enter Try.func20, Try.ntmps20
    go_wp2_with fail
    go_quiet (fail)
    go_wp2_with fail
    go_ret
    exact ⟨⟨false, rfl, ⟨(fun h => by cases h), fun h => absurd h R.out⟩⟩, below_drewN q0.out _⟩
  have d1 : decide (n ≤ 620) = true := decide_eq_true b1
  by_cases b2 : 0 ≤ a
  case neg =>
    have d2 : decide ((0 : Int) ≤ a) = false := decide_eq_false b2
    have R := hide (show ¬ extOk a m n from fun h => b2 (by unfold extOk at h; omega))
    clear b0 b1 b2
    go_enter Try.func20, Try.ntmps20
    go_wp2_with fail
    go_quiet (fail)
    go_wp2_with fail
    go_ret
    exact ⟨⟨false, rfl, ⟨(fun h => by cases h), fun h => absurd h R.out⟩⟩, below_drewN q0.out _⟩
  have d2 : decide ((0 : Int) ≤ a) = true := decide_eq_true b2
  by_cases b3 : 0 ≤ m
  case neg =>
    have d3 : decide ((0 : Int) ≤ m) = false := decide_eq_false b3
    have R := hide (show ¬ extOk a m n from fun h => b3 (by unfold extOk at h; omega))
    clear b0 b1 b2 b3
    go_enter Try.func20, Try.ntmps20
    go_wp2_with fail
    go_quiet (fail)
    go_wp2_with fail
    go_ret
    exact ⟨⟨false, rfl, ⟨(fun h => by cases h), fun h => absurd h R.out⟩⟩, below_drewN q0.out _⟩
  have d3 : decide ((0 : Int) ≤ m) = true := decide_eq_true b3
  by_cases b4 : m ≤ 20000
  case neg =>
    have d4 : decide (m ≤ 20000) = false := decide_eq_false b4
    have R := hide (show ¬ extOk a m n from fun h => b4 (by unfold extOk at h; omega))
    clear b0 b1 b2 b3 b4
    go_enter Try.func20, Try.ntmps20
    go_wp2_with fail
    go_quiet (fail)
    go_wp2_with fail
    go_ret
    exact ⟨⟨false, rfl, ⟨(fun h => by cases h), fun h => absurd h R.out⟩⟩, below_drewN q0.out _⟩
  have d4 : decide (m ≤ 20000) = true := decide_eq_true b4
  obtain ⟨k, rfl⟩ : ∃ k : Nat, m = (k : Int) := ⟨m.toNat, by omega⟩
  have hk : k ≤ 1048576 := by omega
  obtain ⟨q, hq⟩ : ∃ q, q = (k + 63) / 64 := ⟨_, rfl⟩
  have hc : ∀ w, Calls Try.prog 42 #[.int .i64 (k : Int)] w fun e w' => e = .returned (.int .i64 (q : Int)) ∧ w' = w := fun w => by rw [hq]; exact spec_sectors k w hk
  have s1 : IntKind.i64.wrap (n - (q : Int)) = n - (q : Int) := by simp only [IntKind.wrap_i64]; omega
  have HC := hide hc
  have HQ := hide hq
  by_cases b5 : a ≤ n - (q : Int)
  · have d5 : decide (a ≤ n - (q : Int)) = true := decide_eq_true b5
    have R := hide (show extOk a (k : Int) n ↔ True from by
      have := HQ.out
      unfold extOk
      simp only [iff_true]
      simp only [Int.toNat_natCast]
      omega)
    clear b0 b1 b2 b3 b4 b5 hc hq
    go_enter Try.func20, Try.ntmps20
    go_wp2_with fail
    go_quiet ((go_at_call 42; exact Calls.quiet_of_same (HC.out _)))
    go_wp2_with fail
    go_ret
    exact ⟨⟨true, rfl, ⟨fun _ => R.out.2 trivial, fun _ => rfl⟩⟩, below_drewN q0.out _⟩
  · have d5 : decide (a ≤ n - (q : Int)) = false := decide_eq_false b5
    have R := hide (show extOk a (k : Int) n ↔ False from by
      have := HQ.out
      unfold extOk
      simp only [iff_false]
      simp only [Int.toNat_natCast]
      omega)
    clear b0 b1 b2 b3 b4 b5 hc hq
    go_enter Try.func20, Try.ntmps20
    go_wp2_with fail
    go_quiet ((go_at_call 42; exact Calls.quiet_of_same (HC.out _)))
    go_wp2_with fail
    go_ret
    exact ⟨⟨false, rfl, ⟨(fun h => by cases h), fun h => (R.out.1 h).elim⟩⟩, below_drewN q0.out _⟩
end Go.Proofs.Ytipeelkmmjgehaa
