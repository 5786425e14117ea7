/- The powers of 3 and of what is 1 over it run through all bytes but 0: so a table that is filled along them is the box. No program is named here. -/
import Derived.Test.YtgbbfdcfiofneaaAesF
namespace Go.Proofs.Ytgbbfdcfiofneaa
def it (g : Nat) : Nat → Nat
  | 0 => 1
  | k + 1 => times (it g k) g
theorem it_lt (g : Nat) : ∀ k, it g k < 256
  | 0 => by show (1 : Nat) < 256; omega
  | k + 1 => times_lt _ _ (it_lt g k)
theorem it_zero (g : Nat) : it g 0 = 1 := rfl
theorem it_succ (g k : Nat) : it g (k + 1) = times (it g k) g := rfl
def tabAt : Nat → Nat → UInt8
  | 0, j => if j = 0 then 99 else 0
  | k + 1, j => if j = it 3 k then UInt8.ofNat (ring (it 246 k) 5) else tabAt k j
def chk : Nat → Nat → Nat → Bool
  | 0, _, _ => true
  | n + 1, p, u => (u == pw p 8) && chk n (times p 3) (times u 246)
theorem chk_all : chk 255 1 1 = true := by decide +kernel
theorem chk_at : ∀ n k, chk n (it 3 k) (it 246 k) = true → ∀ i, k ≤ i → i < k + n → it 246 i = pw (it 3 i) 8
  | 0, k, _, i, h1, h2 => by omega
  | n + 1, k, h, i, h1, h2 => by
    unfold chk at h
    rw [Bool.and_eq_true] at h
    by_cases e : i = k
    · subst e; exact eq_of_beq h.1
    · exact chk_at n (k + 1) h.2 i (by omega) (by omega)
def mask : Nat → Nat → Nat
  | 0, _ => 0
  | n + 1, p => 2 ^ p ||| mask n (times p 3)
theorem mask_all : mask 255 1 = 2 ^ 256 - 2 := by decide +kernel
theorem mask_bit : ∀ n k j, (mask n (it 3 k)).testBit j = true → ∃ i, k ≤ i ∧ i < k + n ∧ it 3 i = j
  | 0, k, j, h => by simp [mask] at h
  | n + 1, k, j, h => by
    unfold mask at h
    rw [Nat.testBit_or, Bool.or_eq_true] at h
    rcases h with h | h
    · refine ⟨k, by omega, by omega, ?_⟩
      rw [Nat.testBit_two_pow] at h
      simpa using h
    · obtain ⟨i, h1, h2, h3⟩ := mask_bit n (k + 1) j h
      exact ⟨i, by omega, by omega, h3⟩
theorem full_bit : ∀ j : Fin 256, j.1 ≠ 0 → (2 ^ 256 - 2 : Nat).testBit j.1 = true := by decide +kernel
theorem sbox_zero : sbox 0 = 99 := by decide +kernel
theorem tab_some : ∀ n, n ≤ 255 → ∀ j, (j = 0 ∨ ∃ i, i < n ∧ it 3 i = j) → tabAt n j = sbox j
  | 0, _, j, h => by
    rcases h with rfl | ⟨i, hi, _⟩
    · rw [sbox_zero]; rfl
    · omega
  | n + 1, hn, j, h => by
    have e : it 246 n = pw (it 3 n) 8 := chk_at 255 0 chk_all n (by omega) (by omega)
    unfold tabAt
    by_cases hj : j = it 3 n
    · rw [if_pos hj, e, hj]; rfl
    · rw [if_neg hj]
      refine tab_some n (by omega) j ?_
      rcases h with h | ⟨i, hi, h⟩
      · exact .inl h
      · refine .inr ⟨i, ?_, h⟩
        rcases Nat.lt_or_ge i n with h2 | h2
        · exact h2
        · have : i = n := by omega
          subst this; exact absurd h.symm hj
theorem tab_end (j : Nat) (hj : j < 256) : tabAt 255 j = sbox j := by
  refine tab_some 255 (by omega) j ?_
  by_cases h0 : j = 0
  · exact .inl h0
  · have h := full_bit ⟨j, hj⟩ h0
    rw [← mask_all] at h
    obtain ⟨i, _, h2, h3⟩ := mask_bit 255 0 j h
    exact .inr ⟨i, by omega, h3⟩
end Go.Proofs.Ytgbbfdcfiofneaa
