/- A number is read back from its bytes. No program is named here. -/
import Derived.Test.YtdoodkabmeojmaaDoorNums
import Derived.Test.YtdoodkabmeojmaaDoorDec
import Derived.Test.YtdoodkabmeojmaaDoorOwn
namespace Go.Proofs.YtdoodkabmeojmaaDoor
open Go.RowKit

theorem unfold_fold (n : Int) : unfold (foldNum n) = n := by
  unfold unfold foldNum
  by_cases h : n < 0
  · rw [if_pos h, if_pos (by omega)]; omega
  · rw [if_neg h, if_neg (by omega)]; omega
theorem byte_nat (n : Nat) (h : n < 256) : (UInt8.ofNat n).toNat = n := by
  have := ofNat_byte n h; omega
theorem encNum_ne (V : Nat) : encNum V ≠ [] := by
  by_cases h : V < 128
  · rw [encNum_last V h]; simp
  · rw [encNum_more V h]; simp

theorem k_of {V k : Nat} (h : V * 2 ^ (7 * k) < 18446744073709551616) (hV : 128 ≤ V) : k ≤ 8 := by
  rcases Nat.lt_or_ge k 9 with h9 | h9
  · omega
  · have h1 : 2 ^ 63 ≤ 2 ^ (7 * k) := Nat.pow_le_pow_right (by decide) (by omega)
    have h2 := Nat.mul_le_mul hV h1
    have h3 : (128 : Nat) * 2 ^ 63 = 1180591620717411303424 := by decide
    omega
theorem v_of {V : Nat} (h : V * 2 ^ (7 * 9) < 18446744073709551616) : V ≤ 1 := by
  have h3 : (2 : Nat) ^ (7 * 9) = 9223372036854775808 := by decide
  rw [h3] at h; omega
theorem next_of {V k : Nat} (h : V * 2 ^ (7 * k) < 18446744073709551616) : V / 128 * 2 ^ (7 * (k + 1)) < 18446744073709551616 := by
  have e : 2 ^ (7 * (k + 1)) = 128 * 2 ^ (7 * k) := by rw [show 7 * (k + 1) = 7 * k + 7 from by omega, Nat.pow_add, Nat.mul_comm]
  rw [e, ← Nat.mul_assoc]
  exact Nat.lt_of_le_of_lt (Nat.mul_le_mul_right _ (by omega)) h

theorem dec_enc (n : Nat) : ∀ V, V ≤ n → ∀ k u rest, k ≤ 9 → V * 2 ^ (7 * k) < 18446744073709551616 → (0 < k → 0 < V) → dec k u (encNum V ++ rest) = (0, u + V * 2 ^ (7 * k), k + (encNum V).length) := by
  induction n with
  | zero =>
    intro V hV k u rest hk hb h0
    obtain rfl : V = 0 := by omega
    have hk0 : k = 0 := by rcases Nat.eq_zero_or_pos k with h | h; exact h; exact absurd (h0 h) (by omega)
    subst hk0
    rw [encNum_last 0 (by omega)]
    simp [dec]
  | succ n ih =>
    intro V hV k u rest hk hb h0
    by_cases hlt : V < 128
    · rw [encNum_last V hlt]
      have hn := byte_nat V (by omega)
      have h9 : ¬ (k = 9 ∧ 1 < (UInt8.ofNat V).toNat) := by
        rintro ⟨rfl, h⟩
        have := v_of hb; omega
      have hz : ¬ ((UInt8.ofNat V).toNat = 0 ∧ 0 < k) := by rintro ⟨h1, h2⟩; have := h0 h2; omega
      rw [List.singleton_append, dec, if_neg h9, if_pos (by omega), if_neg hz, hn, Nat.mod_eq_of_lt hlt]
      rfl
    · rw [encNum_more V hlt]
      have hn := byte_nat (V % 128 + 128) (by omega)
      have hk8 := k_of hb (by omega)
      rw [List.cons_append, dec, if_neg (by omega), if_neg (by omega), hn]
      have e2 : (V % 128 + 128) % 128 = V % 128 := by omega
      rw [e2, ih (V / 128) (by omega) (k + 1) _ rest (by omega) (next_of hb) (by omega)]
      have e : 2 ^ (7 * (k + 1)) = 128 * 2 ^ (7 * k) := by rw [show 7 * (k + 1) = 7 * k + 7 from by omega, Nat.pow_add, Nat.mul_comm]
      have e3 : V % 128 * 2 ^ (7 * k) + V / 128 * (128 * 2 ^ (7 * k)) = V * 2 ^ (7 * k) := by
        rw [← Nat.mul_assoc, ← Nat.add_mul]
        have : V % 128 + V / 128 * 128 = V := by omega
        rw [this]
      rw [e, Nat.add_assoc, e3, List.length_cons]
      have e4 : k + 1 + (encNum (V / 128)).length = k + ((encNum (V / 128)).length + 1) := by omega
      rw [e4]

theorem dec_cut (n : Nat) : ∀ V, V ≤ n → ∀ k u, k ≤ 9 → V * 2 ^ (7 * k) < 18446744073709551616 → dec k u (encNum V).dropLast = (4, 0, 0) := by
  induction n with
  | zero =>
    intro V hV k u hk hb
    obtain rfl : V = 0 := by omega
    rw [encNum_last 0 (by omega)]; rfl
  | succ n ih =>
    intro V hV k u hk hb
    by_cases hlt : V < 128
    · rw [encNum_last V hlt]; rfl
    · rw [encNum_more V hlt, List.dropLast_cons_of_ne_nil (encNum_ne _)]
      have hn := byte_nat (V % 128 + 128) (by omega)
      have hk8 := k_of hb (by omega)
      rw [dec, if_neg (by omega), if_neg (by omega)]
      exact ih (V / 128) (by omega) (k + 1) _ (by omega) (next_of hb)

theorem dec_whole (V : Nat) (rest : List UInt8) (h : V < 18446744073709551616) : dec 0 0 (encNum V ++ rest) = (0, V, (encNum V).length) := by
  have := dec_enc V V (Nat.le_refl _) 0 0 rest (by omega) (by simpa using h) (by omega)
  simpa using this
theorem dec_cut0 (V : Nat) (h : V < 18446744073709551616) : dec 0 0 (encNum V).dropLast = (4, 0, 0) :=
  dec_cut V V (Nat.le_refl _) 0 0 (by omega) (by simpa using h)
end Go.Proofs.YtdoodkabmeojmaaDoor
