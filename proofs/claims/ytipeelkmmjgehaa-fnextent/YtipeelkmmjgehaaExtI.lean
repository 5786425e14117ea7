/- The walks over the program's SectorsOf, ExtentRight, touched, patchCode, partAt. -/
import Derived.Test.YtipeelkmmjgehaaExtS
import Derived.Test.YtipeelkmmjgehaaExtM
import Derived.Test.YtipeelkmmjgehaaDkW
namespace Go.Proofs.Ytipeelkmmjgehaa
open Go Go.RowKit
theorem imp_pieces (n : Nat) (w : World) (hn : n ≤ 1048576) :
    Calls Try.prog 49 #[.int .i64 (n : Int)] w fun e w' => e = .returned (.int .i64 (((n + 63) / 64 : Nat) : Int)) ∧ w' = w := by
  obtain ⟨q, hq⟩ : ∃ q, q = (n + 63) / 64 := ⟨_, rfl⟩
  rw [← hq]
  have h0 : (n : Int) + 64 - 1 = ((n + 63 : Nat) : Int) := by omega
  have h1 : Int.tdiv ((n : Int) + 64 - 1) 64 = (q : Int) := by rw [h0, hq]; rfl
  go_enter Try.func49, Try.ntmps49
  go_wp2_with fail
  go_ret
  exact ⟨by first | rfl | (simp; omega), rfl⟩
set_option maxHeartbeats 800000 in
theorem imp_sectorsOf (m : Int) (w : World) :
    Calls Try.prog 18 #[.int .i64 m] w fun e w' => e = .returned (.int .i64 (secsOf m)) ∧ w' = w := by
  by_cases b1 : m < 0
  · have d1 : decide (m < 0) = true := decide_eq_true b1
    have R := hide (show secsOf m = 0 from if_pos (.inl b1))
    clear b1
    go_enter Try.func18, Try.ntmps18
    go_wp2_with fail
    go_ret
    exact ⟨by rw [R.out]; rfl, rfl⟩
  have d1 : decide (m < 0) = false := decide_eq_false b1
  by_cases b2 : 20000 < m
  · have d2 : decide (20000 < m) = true := decide_eq_true b2
    have R := hide (show secsOf m = 0 from if_pos (.inr b2))
    clear b1 b2
    go_enter Try.func18, Try.ntmps18
    go_wp2_with fail
    go_ret
    exact ⟨by rw [R.out]; rfl, rfl⟩
  have d2 : decide (20000 < m) = false := decide_eq_false b2
  obtain ⟨k, rfl⟩ : ∃ k : Nat, m = (k : Int) := ⟨m.toNat, by omega⟩
  have hk : k ≤ 20000 := by omega
  have R := hide (show secsOf (k : Int) = (((k + 63) / 64 : Nat) : Int) from by unfold secsOf; rw [if_neg (by omega)]; simp)
  clear b1 b2
  have hc := imp_pieces k w (by omega)
  obtain ⟨q, hq⟩ : ∃ q, q = (k + 63) / 64 := ⟨_, rfl⟩
  rw [← hq] at hc R
  have HC := hide hc
  clear hc hq
  go_enter Try.func18, Try.ntmps18
  go_wp2_with fail
  refine HC.out.mono ?_
  rintro e w1 ⟨rfl, rfl⟩
  go_wp2_with fail
  go_ret
  exact ⟨by rw [R.out]; rfl, rfl⟩
set_option maxRecDepth 100000 in
set_option maxHeartbeats 1600000 in
theorem imp_extentRight (a m n : Int) (w : World) :
    Calls Try.prog 22 #[.agg #[.int .i64 a, .int .i64 m], .int .i64 n] w fun e w' => tells e (extOk a m n) ∧ Below w.heap.size w w' := by
  have q0 := hide ((Below.refl w.heap.size w).alloc (Nat.le_refl _) (.cells #[.int .i64 a, .int .i64 m] 34))
  by_cases b0 : n < 0
  case pos =>
    have d0 : decide (n < 0) = true := decide_eq_true b0
    have R := hide (show ¬ extOk a m n from fun h => by unfold extOk at h; omega)
    clear b0
    go_enter Try.func22, Try.ntmps22
    go_wp2_with fail
    go_ret
    exact ⟨⟨false, rfl, ⟨(fun h => by cases h), fun h => absurd h R.out⟩⟩, q0.out⟩
  have d0 : decide (n < 0) = false := decide_eq_false b0
  by_cases b1 : 620 < n
  case pos =>
    have d1 : decide ((620 : Int) < n) = true := decide_eq_true b1
    have R := hide (show ¬ extOk a m n from fun h => by unfold extOk at h; omega)
    clear b0 b1
    go_enter Try.func22, Try.ntmps22
    go_wp2_with fail
    go_ret
    exact ⟨⟨false, rfl, ⟨(fun h => by cases h), fun h => absurd h R.out⟩⟩, q0.out⟩
  have d1 : decide ((620 : Int) < n) = false := decide_eq_false b1
  by_cases b2 : m < 0
  case pos =>
    have d2 : decide (m < 0) = true := decide_eq_true b2
    have R := hide (show ¬ extOk a m n from fun h => by unfold extOk at h; omega)
    clear b0 b1 b2
    go_enter Try.func22, Try.ntmps22
    go_wp2_with fail
    go_ret
    exact ⟨⟨false, rfl, ⟨(fun h => by cases h), fun h => absurd h R.out⟩⟩, q0.out⟩
  have d2 : decide (m < 0) = false := decide_eq_false b2
  by_cases b3 : 20000 < m
  case pos =>
    have d3 : decide ((20000 : Int) < m) = true := decide_eq_true b3
    have R := hide (show ¬ extOk a m n from fun h => by unfold extOk at h; omega)
    clear b0 b1 b2 b3
    go_enter Try.func22, Try.ntmps22
    go_wp2_with fail
    go_ret
    exact ⟨⟨false, rfl, ⟨(fun h => by cases h), fun h => absurd h R.out⟩⟩, q0.out⟩
  have d3 : decide ((20000 : Int) < m) = false := decide_eq_false b3
  have hc : ∀ w, Calls Try.prog 18 #[.int .i64 m] w fun e w' => e = .returned (.int .i64 (secsOf m)) ∧ w' = w := fun w => imp_sectorsOf m w
  have hq : secsOf m = (((m.toNat + 63) / 64 : Nat) : Int) := if_neg (by omega)
  generalize secsOf m = q at *
  have hl : ∀ w, Calls Try.prog 50 #[.int .i64 a, .int .i64 q, .int .i64 n] w fun e w' => e = .returned (.bool (decide (0 ≤ a ∧ a ≤ n - q))) ∧ w' = w := fun w => imp_lieInB a q n _ w (by omega) (by omega) (by omega) (by omega) (by simp)
  have R := hide (show extOk a m n ↔ 0 ≤ a ∧ a ≤ n - q from by unfold extOk; omega)
  obtain ⟨r, hr⟩ : ∃ r : Bool, r = decide (0 ≤ a ∧ a ≤ n - q) := ⟨_, rfl⟩
  rw [← hr] at hl
  have HC := hide (And.intro hc (And.intro hl hr))
  clear b0 b1 b2 b3 hc hq hl hr
  go_enter Try.func22, Try.ntmps22
  go_wp2_with fail
  go_quiet ((first | (go_at_call 18; exact Calls.quiet_of_same (HC.out.1 _)) | (go_at_call 50; exact Calls.quiet_of_same (HC.out.2.1 _))))
  go_wp2_with fail
  go_ret
  exact ⟨⟨r, rfl, by rw [HC.out.2.2, decide_eq_true_iff]; exact R.out.symm⟩, below_drewN q0.out _⟩
theorem imp_touched (p n : Nat) (w : World) (hn : n ≤ 1000000) :
    Calls Try.prog 63 #[.int .i64 (p : Int), .int .i64 (n : Int)] w fun e w' => e = .returned (.int .i64 (touchN p n : Int)) ∧ w' = w := by
  by_cases h0 : n = 0
  · subst h0
    go_enter Try.func63, Try.ntmps63
    go_wp2_with fail
    go_ret
    exact ⟨rfl, rfl⟩
  · have R := hide (show touchN p n = (p % 64 + n + 63) / 64 from if_neg h0)
    have hz : ((n : Int) == 0) = false := by simp; omega
    have hz2 : decide ((n : Int) = 0) = false := decide_eq_false (by omega)
    obtain ⟨f, hf⟩ : ∃ f, f = p % 64 := ⟨_, rfl⟩
    have s1 : Int.tmod (p : Int) 64 = (f : Int) := by rw [hf]; rfl
    have s2 : (p : Int) % 64 = (f : Int) := by omega
    obtain ⟨k, hk⟩ : ∃ k, k = f + n := ⟨_, rfl⟩
    have s3 : (f : Int) + (n : Int) = (k : Int) := by omega
    have hc := imp_pieces k w (by omega)
    rw [← hf, ← hk] at R
    have hf64 : (f : Int) < 64 := by omega
    clear hf
    obtain ⟨q, hq⟩ : ∃ q, q = (k + 63) / 64 := ⟨_, rfl⟩
    rw [← hq] at hc R
    have HC := hide hc
    have hkb : (k : Int) ≤ 1000064 := by omega
    clear hc hq hk h0
    go_enter Try.func63, Try.ntmps63
    go_wp2_with fail
    refine HC.out.mono ?_
    rintro e w1 ⟨rfl, rfl⟩
    go_wp2_with fail
    go_ret
    exact ⟨by rw [R.out]; rfl, rfl⟩
end Go.Proofs.Ytipeelkmmjgehaa
