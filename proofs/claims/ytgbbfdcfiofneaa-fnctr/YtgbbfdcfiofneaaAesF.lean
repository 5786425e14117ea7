/- The bytes of AES, as functions on plain numbers. No program is named here. -/
import Derived.Laws.BitsLemmas
import Derived.WalkKit
namespace Go.Proofs.Ytgbbfdcfiofneaa
open Go Go.RowKit

theorem ofInt64 (a : Nat) : (BitVec.ofInt 64 (a : Int)).toNat = a % 18446744073709551616 := by rw [BitVec.ofInt_natCast, BitVec.toNat_ofNat]
theorem q_xor (a b : Nat) (ha : a < 4611686018427387904) (hb : b < 4611686018427387904) : bits .xor .i64 (a : Int) (b : Int) = ((a ^^^ b : Nat) : Int) := by
  have hx : a ^^^ b < 2 ^ 62 := Nat.xor_lt_two_pow (by omega) (by omega)
  show IntKind.i64.wrap ((BitVec.ofInt 64 (a : Int) ^^^ BitVec.ofInt 64 (b : Int)).toNat : Int) = _
  rw [BitVec.toNat_xor, ofInt64, ofInt64, Nat.mod_eq_of_lt (by omega), Nat.mod_eq_of_lt (by omega), IntKind.wrap_i64]; omega
theorem q_and (a b : Nat) (ha : a < 4611686018427387904) (hb : b < 4611686018427387904) : bits .and .i64 (a : Int) (b : Int) = ((a &&& b : Nat) : Int) := by
  have hx : a &&& b < 2 ^ 62 := Nat.and_lt_two_pow _ (by omega)
  show IntKind.i64.wrap ((BitVec.ofInt 64 (a : Int) &&& BitVec.ofInt 64 (b : Int)).toNat : Int) = _
  rw [BitVec.toNat_and, ofInt64, ofInt64, Nat.mod_eq_of_lt (by omega), Nat.mod_eq_of_lt (by omega), IntKind.wrap_i64]; omega
theorem q_or (a b : Nat) (ha : a < 4611686018427387904) (hb : b < 4611686018427387904) : bits .or .i64 (a : Int) (b : Int) = ((a ||| b : Nat) : Int) := by
  have hx : a ||| b < 2 ^ 62 := Nat.or_lt_two_pow (by omega) (by omega)
  show IntKind.i64.wrap ((BitVec.ofInt 64 (a : Int) ||| BitVec.ofInt 64 (b : Int)).toNat : Int) = _
  rw [BitVec.toNat_or, ofInt64, ofInt64, Nat.mod_eq_of_lt (by omega), Nat.mod_eq_of_lt (by omega), IntKind.wrap_i64]; omega

/-- A byte doubled, as a polynomial. -/
def dbl (a : Nat) : Nat := if 255 < 2 * a then (2 * a) ^^^ 283 else 2 * a
theorem dbl_lt (a : Nat) (h : a < 256) : dbl a < 256 := by
  have : ∀ x : Fin 256, dbl x.1 < 256 := by decide +kernel
  exact this ⟨a, h⟩
def tA (a : Nat) : Nat → Nat
  | 0 => a
  | k + 1 => dbl (tA a k)
def tN (a b : Nat) : Nat → Nat
  | 0 => 0
  | k + 1 => if b / 2 ^ k % 2 = 1 then tN a b k ^^^ tA a k else tN a b k
/-- The product of two bytes. -/
def times (a b : Nat) : Nat := tN a b 8
theorem tA_lt (a : Nat) (h : a < 256) : ∀ k, tA a k < 256
  | 0 => h
  | k + 1 => dbl_lt _ (tA_lt a h k)
theorem xor_lt256 (a b : Nat) (ha : a < 256) (hb : b < 256) : a ^^^ b < 256 := Nat.xor_lt_two_pow (n := 8) ha hb
theorem tN_lt (a b : Nat) (h : a < 256) : ∀ k, tN a b k < 256
  | 0 => Nat.zero_lt_succ _
  | k + 1 => by
    unfold tN
    split
    · exact xor_lt256 _ _ (tN_lt a b h k) (tA_lt a h k)
    · exact tN_lt a b h k
theorem times_lt (a b : Nat) (h : a < 256) : times a b < 256 := tN_lt a b h 8
/-- n to the powers of the loop: j squarings, seven products. -/
def pw (n : Nat) : Nat → Nat
  | 0 => 1
  | j + 1 => if j < 7 then times (times (pw n j) (pw n j)) n else times (pw n j) (pw n j)
theorem pw_lt (n : Nat) : ∀ j, pw n j < 256
  | 0 => by show (1 : Nat) < 256; omega
  | j + 1 => by
    unfold pw
    split
    · exact times_lt _ _ (times_lt _ _ (pw_lt n j))
    · exact times_lt _ _ (pw_lt n j)
def ring (b : Nat) : Nat → Nat
  | 0 => 99
  | k + 1 => ring b k ^^^ ((b * 2 ^ k) % 256 ||| b / 2 ^ (8 - k))
theorem ring_lt (b : Nat) (h : b < 256) : ∀ k, k ≤ 5 → ring b k < 256
  | 0, _ => by show (99 : Nat) < 256; omega
  | k + 1, hk => by
    have h1 := ring_lt b h k (by omega)
    have h2 : b / 2 ^ (8 - k) < 256 := Nat.lt_of_le_of_lt (Nat.div_le_self _ _) h
    have h3 : (b * 2 ^ k) % 256 ||| b / 2 ^ (8 - k) < 256 := Nat.or_lt_two_pow (n := 8) (Nat.mod_lt _ (by decide)) h2
    exact xor_lt256 _ _ h1 h3
/-- SboxOf a byte. -/
def sboxN (n : Nat) : Nat := ring (pw n 8) 5
theorem sboxN_lt (n : Nat) : sboxN n < 256 := ring_lt _ (pw_lt n 8) 5 (by omega)
def sbox (n : Nat) : UInt8 := UInt8.ofNat (sboxN n)
end Go.Proofs.Ytgbbfdcfiofneaa
