/- Plain facts on the bytes of a number (seven bits a byte, the lowest first): no program is named here. -/
import Derived.WalkKit
namespace Go.Proofs.YtdoodkabmeojmaaDoor
open Go.RowKit

/-- The bytes of a number from 0 on: seven bits a byte, the lowest first, 128 more in all but the last. -/
def encNum (u : Nat) : List UInt8 := if h : u < 128 then [UInt8.ofNat u] else UInt8.ofNat (u % 128 + 128) :: encNum (u / 128)

theorem encNum_last (u : Nat) (h : u < 128) : encNum u = [UInt8.ofNat u] := by rw [encNum, dif_pos h]
theorem encNum_more (u : Nat) (h : ¬ u < 128) : encNum u = UInt8.ofNat (u % 128 + 128) :: encNum (u / 128) := by
  conv => lhs; rw [encNum, dif_neg h]

theorem encNum_len (k : Nat) : ∀ u : Nat, u < 128 ^ (k + 1) → (encNum u).length ≤ k + 1 := by
  induction k with
  | zero => intro u h; rw [encNum_last u (by simpa using h)]; simp
  | succ k ih =>
    intro u h
    by_cases hu : u < 128
    · rw [encNum_last u hu]; simp
    · rw [encNum_more u hu]
      have := ih (u / 128) (by rw [Nat.pow_succ] at h; exact Nat.div_lt_of_lt_mul (by rw [Nat.mul_comm]; exact h))
      simp; omega

theorem encNum_len10 (u : Nat) (h : u < 2 ^ 64) : (encNum u).length ≤ 10 := encNum_len 9 u (Nat.lt_of_lt_of_le h (by decide))

/-- Twice n, or -2n-1. -/
def foldNum (n : Int) : Nat := if n < 0 then (-2 * n - 1).toNat else (2 * n).toNat
end Go.Proofs.YtdoodkabmeojmaaDoor
