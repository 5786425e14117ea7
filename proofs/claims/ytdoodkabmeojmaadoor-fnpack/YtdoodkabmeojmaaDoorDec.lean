/- A number read back from its bytes. No program is named here. -/
import Derived.Laws.BitsLemmas
import Derived.Laws.Bits64
import Derived.Laws.Bits64b
import Derived.WalkKit
namespace Go.Proofs.YtdoodkabmeojmaaDoor
open Go Go.RowKit

/-- From the byte number k on, u read so far: the code (0, 3 or 4), the number, how many bytes. -/
def dec (k u : Nat) : List UInt8 → Nat × Nat × Nat
  | [] => (4, 0, 0)
  | b :: l =>
    if k = 9 ∧ 1 < b.toNat then (3, 0, 0)
    else if b.toNat < 128 then (if b.toNat = 0 ∧ 0 < k then (3, 0, 0) else (0, u + b.toNat % 128 * 2 ^ (7 * k), k + 1))
    else dec (k + 1) (u + b.toNat % 128 * 2 ^ (7 * k)) l

/-- What stands at that place of the text. -/
def decAt (s : ByteArray) (q : Nat) : Nat × Nat × Nat := dec 0 0 (s.data.toList.drop q)

theorem dec_short (s : ByteArray) (q k u : Nat) (T : Nat × Nat × Nat) (h : s.size ≤ q + k) (hd : dec k u (s.data.toList.drop (q + k)) = T) : T = (4, 0, 0) := by
  rw [List.drop_eq_nil_of_le (by simpa using h)] at hd; rw [← hd]; rfl
theorem drop_at (s : ByteArray) (i : Nat) (h : i < s.size) : s.data.toList.drop i = s[i] :: s.data.toList.drop (i + 1) := by
  have h' : i < s.data.toList.length := by simpa using h
  rw [List.drop_eq_getElem_cons h']; rfl
theorem dec_more (s : ByteArray) (q k u : Nat) (T : Nat × Nat × Nat) (h : q + k < s.size) (hk : k < 9) (hb : 128 ≤ s[q + k].toNat) (hd : dec k u (s.data.toList.drop (q + k)) = T) :
    dec (k + 1) (u + s[q + k].toNat % 128 * 2 ^ (7 * k)) (s.data.toList.drop (q + (k + 1))) = T := by
  rw [drop_at s _ h, dec, if_neg (by omega), if_neg (by omega)] at hd
  exact hd
theorem dec_bad (s : ByteArray) (q k u : Nat) (T : Nat × Nat × Nat) (h : q + k < s.size) (hb : (k = 9 ∧ 1 < s[q + k].toNat) ∨ (0 < k ∧ s[q + k].toNat = 0)) (hd : dec k u (s.data.toList.drop (q + k)) = T) : T = (3, 0, 0) := by
  rw [drop_at s _ h, dec] at hd
  rcases hb with hb | hb
  · rw [if_pos hb] at hd; exact hd.symm
  · rw [if_neg (by omega), if_pos (by omega), if_pos (by omega)] at hd; exact hd.symm
theorem dec_good (s : ByteArray) (q k u : Nat) (T : Nat × Nat × Nat) (h : q + k < s.size) (hb : s[q + k].toNat < 128) (h9 : k = 9 → s[q + k].toNat ≤ 1) (h0 : 0 < k → s[q + k].toNat ≠ 0) (hd : dec k u (s.data.toList.drop (q + k)) = T) :
    T = (0, u + s[q + k].toNat % 128 * 2 ^ (7 * k), k + 1) := by
  rw [drop_at s _ h, dec, if_neg (by omega), if_pos hb, if_neg (by omega)] at hd; exact hd.symm

theorem pow_le9 (k : Nat) (h : k ≤ 9) : 2 ^ (7 * k) ≤ 9223372036854775808 := by
  have : 2 ^ (7 * k) ≤ 2 ^ 63 := Nat.pow_le_pow_right (by decide) (by omega)
  exact Nat.le_trans this (by decide)
theorem next_lt (u c k : Nat) (hu : u < 2 ^ (7 * k)) : u + c % 128 * 2 ^ (7 * k) < 2 ^ (7 * (k + 1)) := by
  have e : 2 ^ (7 * (k + 1)) = 128 * 2 ^ (7 * k) := by rw [show 7 * (k + 1) = 7 * k + 7 from by omega, Nat.pow_add, Nat.mul_comm]
  have h1 : c % 128 * 2 ^ (7 * k) + 2 ^ (7 * k) ≤ 128 * 2 ^ (7 * k) := by
    have := Nat.mul_le_mul_right (2 ^ (7 * k)) (show c % 128 + 1 ≤ 128 by omega)
    rw [Nat.add_mul, Nat.one_mul] at this; exact this
  omega
theorem next_fits (u c k : Nat) (hk : k ≤ 9) (hu : u < 2 ^ (7 * k)) (h9 : k = 9 → c ≤ 1) : u + c % 128 * 2 ^ (7 * k) < 18446744073709551616 := by
  by_cases h : k = 9
  · subst h
    have := h9 rfl
    have e : (2 : Nat) ^ (7 * 9) = 9223372036854775808 := by decide
    rw [e] at *
    have : c % 128 ≤ 1 := by omega
    omega
  · have h1 := next_lt u c k hu
    have h2 := pow_le9 (k + 1) (by omega)
    omega

theorem wrap_u64_in (n : Int) (h0 : 0 ≤ n) (h1 : n < 18446744073709551616) : IntKind.u64.wrap n = n := by rw [IntKind.wrap_u64]; omega

/-- The byte's bits laid upon what is there. -/
theorem or_step (u c k : Nat) (hk : k ≤ 9) (hu : u < 2 ^ (7 * k)) (h9 : k = 9 → c ≤ 1) :
    bits .or .u64 (u : Int) (IntKind.u64.wrap (((c : Int) % 128) * 2 ^ (7 * k))) = ((u + c % 128 * 2 ^ (7 * k) : Nat) : Int) := by
  have hf := next_fits u c k hk hu h9
  have e : ((c : Int) % 128) * 2 ^ (7 * k) = ((c % 128 * 2 ^ (7 * k) : Nat) : Int) := by
    rw [Int.natCast_mul, Int.natCast_pow, Int.natCast_emod]; rfl
  rw [e, wrap_u64_in _ (by omega) (by omega), bits_or_u64_nat _ _ (by omega) (by omega)]
  have h := Nat.two_pow_add_eq_or_of_lt hu (c % 128)
  rw [Nat.or_comm, Nat.mul_comm (c % 128) (2 ^ (7 * k)), ← h]
  rw [Nat.add_comm]

/-- The number that u folds. -/
def unfold (u : Nat) : Int := if u % 2 = 1 then -((u / 2 : Nat) : Int) - 1 else ((u / 2 : Nat) : Int)

theorem xor_i64_zero (a : Int) (h0 : 0 ≤ a) (h1 : a < 9223372036854775808) : bits .xor .i64 a 0 = a := by
  obtain ⟨n, rfl⟩ := Int.eq_ofNat_of_zero_le h0
  have h : (BitVec.ofInt 64 (n : Int)).toNat = n := by
    rw [BitVec.ofInt_natCast, BitVec.toNat_ofNat]; exact Nat.mod_eq_of_lt (by omega)
  show IntKind.i64.wrap ((BitVec.ofInt 64 (n : Int) ^^^ BitVec.ofInt 64 0).toNat : Int) = _
  have e : BitVec.ofInt 64 0 = 0#64 := by decide
  rw [e, BitVec.xor_zero, h, IntKind.wrap_i64]
  omega
theorem xor_i64_ones (a : Int) (h0 : 0 ≤ a) (h1 : a < 9223372036854775808) : bits .xor .i64 a (-1) = -a - 1 := by
  obtain ⟨n, rfl⟩ := Int.eq_ofNat_of_zero_le h0
  have h : (BitVec.ofInt 64 (n : Int)).toNat = n := by
    rw [BitVec.ofInt_natCast, BitVec.toNat_ofNat]; exact Nat.mod_eq_of_lt (by omega)
  show IntKind.i64.wrap ((BitVec.ofInt 64 (n : Int) ^^^ BitVec.ofInt 64 (-1)).toNat : Int) = _
  have e : BitVec.ofInt 64 (-1) = BitVec.allOnes 64 := by decide
  rw [e, BitVec.xor_allOnes, BitVec.toNat_not, h, IntKind.wrap_i64]
  have e2 : (2 : Nat) ^ 64 - 1 - n = 18446744073709551615 - n := by omega
  rw [e2]
  omega
theorem wraps64' (n : Int) (h₀ : 0 ≤ n) (h₁ : n < 2 ^ 64) : IntKind.u64.wrap n = n := by rw [IntKind.wrap_u64]; omega
theorem u64_and1 (x : Int) (h₀ : 0 ≤ x) (h₁ : x < 18446744073709551616) : bits .and .u64 x 1 = x % 2 := bits_mask .u64 64 (by decide) wraps64' 1 (by decide) x h₀ h₁
theorem unfold_xor (U : Nat) (h : U < 18446744073709551616) : bits .xor .i64 ((U : Int) / 2) (-((U : Int) % 2)) = unfold U := by
  unfold unfold
  by_cases h1 : U % 2 = 1
  · rw [if_pos h1, show -((U : Int) % 2) = -1 from by omega, xor_i64_ones _ (by omega) (by omega)]
    omega
  · rw [if_neg h1, show -((U : Int) % 2) = 0 from by omega, xor_i64_zero _ (by omega) (by omega)]
    omega
end Go.Proofs.YtdoodkabmeojmaaDoor
