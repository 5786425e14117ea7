/- The walks over the model's l03Times and l03Sbox. -/
import Derived.Test.YtgbbfdcfiofneaaRows
import Derived.Test.YtgbbfdcfiofneaaAesF
import Derived.Test.YtgbbfdcfiofneaaOwn
import Derived.Below
namespace Go.Proofs.Ytgbbfdcfiofneaa
open Go.RowKit
theorem int_eq' {k : IntKind} {a b : Int} (h : a = b) : Value.int k a = Value.int k b := by rw [h]
theorem bit_eq (b k : Nat) (h : b < 256) : bits .and .i64 ((b : Int) / 2 ^ k) 1 = ((b / 2 ^ k % 2 : Nat) : Int) := by
  have e : ((b : Int) / 2 ^ k) = ((b / 2 ^ k : Nat) : Int) := by simp
  have hle : b / 2 ^ k ≤ b := Nat.div_le_self _ _
  rw [e, show (1 : Int) = ((1 : Nat) : Int) from rfl, q_and _ _ (by omega) (by omega), Nat.and_one_is_mod]
theorem dbl_eq (A : Nat) (h : A < 256) : (255 < 2 * A → bits .xor .i64 ((A : Int) * 2) 283 = ((dbl A : Nat) : Int)) ∧ (¬ 255 < 2 * A → (A : Int) * 2 = ((dbl A : Nat) : Int)) := by
  have e : (A : Int) * 2 = ((2 * A : Nat) : Int) := by omega
  refine ⟨fun h2 => ?_, fun h2 => ?_⟩
  · rw [e, show (283 : Int) = ((283 : Nat) : Int) from rfl, q_xor _ _ (by omega) (by omega), dbl, if_pos h2]
  · rw [e, dbl, if_neg h2]
set_option maxRecDepth 100000 in
set_option maxHeartbeats 800000 in
theorem spec_times (a b : Nat) (w : World) (ha : a < 256) (hb : b < 256) :
    Calls Try.prog 45 #[.int .i64 a, .int .i64 b] w fun e w' => e = .returned (.int .i64 (times a b : Nat)) ∧ w = w' := by
  go_enter Try.func45, Try.ntmps45
  go_wp2_with fail
  go_loopw [0, 5, 6] (fun x n i wx => ∃ k : Nat, k ≤ 8 ∧ i = .int .i64 k ∧ x = .int .i64 (tA a k : Nat) ∧ n = .int .i64 (tN a b k : Nat) ∧ w = wx) (fun _ _ i _ => 8 - (intOf i).toNat)
  case atStart => exact ⟨0, by omega, rfl, rfl, rfl, rfl⟩
  case round =>
    obtain ⟨k, hk, rfl, rfl, rfl, rfl⟩ := hrel
    by_cases hlt : k < 8
    · have hA := tA_lt a ha k
      have hN := tN_lt a b ha k
      have eA := hide (show tA a (k + 1) = dbl (tA a k) from rfl)
      have eN := hide (show tN a b (k + 1) = if b / 2 ^ k % 2 = 1 then tN a b k ^^^ tA a k else tN a b k from rfl)
      generalize tA a k = A at *
      generalize tN a b k = N at *
      have hA' : (A : Int) ≤ 255 := by omega
      have hbt := bit_eq b k (by omega)
      have hx1 := hide (q_xor N A (by omega) (by omega))
      have hx2 := hide (dbl_eq A hA)
      by_cases hbit : b / 2 ^ k % 2 = 1
      · rw [hbit] at hbt
        rw [if_pos hbit] at eN
        go_wp2_with fail
        all_goals refine ⟨⟨k + 1, by omega, by go_num, ?_, by rw [hx1.out, eN.out], trivial⟩, by simp [intOf]; omega⟩
        all_goals rw [eA.out]
        · exact int_eq' (hx2.out.1 (by omega))
        · exact int_eq' (hx2.out.2 (by omega))
      · have h0 : b / 2 ^ k % 2 = 0 := by omega
        rw [h0] at hbt
        rw [if_neg hbit] at eN
        go_wp2_with fail
        all_goals refine ⟨⟨k + 1, by omega, by go_num, ?_, by rw [eN.out], trivial⟩, by simp [intOf]; omega⟩
        all_goals rw [eA.out]
        · exact int_eq' (hx2.out.1 (by omega))
        · exact int_eq' (hx2.out.2 (by omega))
    · have hE := hide (show tN a b k = times a b by rw [show k = 8 by omega]; rfl)
      go_wp2_with fail
      go_ret
      exact ⟨by rw [← hE.out]; rfl, rfl⟩
theorem spec_timesT (a b c : Nat) (w : World) (ha : a < 256) (hb : b < 256) (hc : times a b = c) :
    Calls Try.prog 45 #[.int .i64 a, .int .i64 b] w fun e w' => e = .returned (.int .i64 (c : Nat)) ∧ w = w' := by
  subst hc; exact spec_times a b w ha hb
end Go.Proofs.Ytgbbfdcfiofneaa
