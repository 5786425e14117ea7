/- A carry through the bytes of a number. No program is named here. -/
import Derived.Test.YtdoodkabmeojmaaDoorRangeF
import Derived.Test.YtdoodkabmeojmaaDoorOwn
namespace Go.Proofs.YtdoodkabmeojmaaDoor
/-- The byte j of the n bytes of V. -/
def byN (n V j : Nat) : UInt8 := UInt8.ofNat (V / 256 ^ (n - 1 - j) % 256)
/-- V's bytes, the last k of them 0. -/
def cutZ (n V k j : Nat) : UInt8 := if n - k ≤ j then 0 else byN n V j
theorem bytesOf_byN (n V : Nat) : bytesOf n V = (List.range n).map (byN n V) := by
  apply List.ext_getElem?
  intro j
  by_cases hj : j < n
  · rw [bytesOf_at n V j hj, List.getElem?_map, List.getElem?_range hj]; rfl
  · rw [List.getElem?_eq_none (by rw [bytesOf_len]; omega), List.getElem?_eq_none (by simp; omega)]
theorem carry_num (V k : Nat) (h : V % 256 ^ k = 256 ^ k - 1) : (V + 1) = (V / 256 ^ k + 1) * 256 ^ k := by
  have hp : 0 < 256 ^ k := Nat.pow_pos (by decide)
  have h2 := Nat.div_add_mod V (256 ^ k)
  rw [Nat.add_mul, Nat.one_mul, Nat.mul_comm (V / 256 ^ k)]
  omega
/-- Where the last k bytes are 255 and the one ahead of them is not: the bytes of V + 1. -/
theorem carry_by (n V k j : Nat) (hk : k < n) (hj : j < n) (h : V % 256 ^ k = 256 ^ k - 1) (hb : V / 256 ^ k % 256 ≠ 255) :
    byN n (V + 1) j = if j = n - 1 - k then UInt8.ofNat (V / 256 ^ k % 256 + 1) else cutZ n V k j := by
  have hp : 0 < 256 ^ k := Nat.pow_pos (by decide)
  have hc := carry_num V k h
  obtain ⟨q, hq⟩ : ∃ q, q = V / 256 ^ k := ⟨_, rfl⟩
  rw [← hq] at hc hb ⊢
  unfold byN cutZ
  by_cases e : j = n - 1 - k
  · rw [if_pos e, show n - 1 - j = k by omega, hc, Nat.mul_div_cancel _ hp, show (q + 1) % 256 = q % 256 + 1 by omega]
  · rw [if_neg e]
    by_cases e2 : n - k ≤ j
    · rw [if_pos e2]
      have e3 : 256 ^ k = 256 ^ (k - 1 - (n - 1 - j)) * 256 * 256 ^ (n - 1 - j) := by
        rw [Nat.mul_assoc, Nat.mul_comm 256, ← Nat.mul_assoc, ← Nat.pow_add, ← Nat.pow_succ]; congr 1; omega
      rw [hc, e3, ← Nat.mul_assoc, Nat.mul_div_cancel _ (Nat.pow_pos (by decide)), ← Nat.mul_assoc, Nat.mul_mod_left]
      rfl
    · rw [if_neg e2]
      unfold byN
      have e3 : 256 ^ (n - 1 - j) = 256 ^ k * (256 * 256 ^ (n - 1 - j - k - 1)) := by
        rw [← Nat.pow_succ', ← Nat.pow_add]; congr 1; omega
      rw [e3, ← Nat.div_div_eq_div_mul, ← Nat.div_div_eq_div_mul, ← Nat.div_div_eq_div_mul, ← Nat.div_div_eq_div_mul, ← hq]
      rw [show (V + 1) / 256 ^ k = q + 1 by rw [hc, Nat.mul_div_cancel _ hp], show (q + 1) / 256 = q / 256 by omega]
theorem carry_more (V k : Nat) (h : V % 256 ^ k = 256 ^ k - 1) (hb : V / 256 ^ k % 256 = 255) : V % 256 ^ (k + 1) = 256 ^ (k + 1) - 1 := by
  have hp : 0 < 256 ^ k := Nat.pow_pos (by decide)
  rw [Nat.mod_pow_succ, h, hb, Nat.pow_succ]
  omega
theorem carry_never (n V : Nat) (hV : V + 1 < 256 ^ n) (h : V % 256 ^ n = 256 ^ n - 1) : False := by
  rw [Nat.mod_eq_of_lt (by omega)] at h
  omega
end Go.Proofs.YtdoodkabmeojmaaDoor
