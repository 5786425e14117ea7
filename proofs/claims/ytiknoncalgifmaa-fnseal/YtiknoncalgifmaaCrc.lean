/- The CRC as a function on numbers. No program is named here. -/
import Derived.Laws.BitsLemmas
import Derived.Laws.Bits64
import Derived.WalkKit
namespace Go.Proofs.Ytiknoncalgifmaa
open Go Go.RowKit

theorem wraps32 (n : Int) (h₀ : 0 ≤ n) (h₁ : n < 2 ^ 32) : IntKind.u32.wrap n = n := by rw [IntKind.wrap_u32]; omega
theorem u32_and1 (x : Int) (h₀ : 0 ≤ x) (h₁ : x < 4294967296) : bits .and .u32 x 1 = x % 2 := bits_mask .u32 32 (by decide) wraps32 1 (by decide) x h₀ h₁
theorem u32_xor (a b : Nat) (ha : a < 4294967296) (hb : b < 4294967296) : bits .xor .u32 (a : Int) (b : Int) = ((a ^^^ b : Nat) : Int) := by
  have hx : a ^^^ b < 2 ^ 32 := Nat.xor_lt_two_pow (by omega) (by omega)
  have h1 : (BitVec.ofInt 32 (a : Int)).toNat = a := by
    rw [BitVec.ofInt_natCast, BitVec.toNat_ofNat]; exact Nat.mod_eq_of_lt (by omega)
  have h2 : (BitVec.ofInt 32 (b : Int)).toNat = b := by
    rw [BitVec.ofInt_natCast, BitVec.toNat_ofNat]; exact Nat.mod_eq_of_lt (by omega)
  show IntKind.u32.wrap ((BitVec.ofInt 32 (a : Int) ^^^ BitVec.ofInt 32 (b : Int)).toNat : Int) = _
  rw [BitVec.toNat_xor, h1, h2, IntKind.wrap_u32]
  omega
theorem u32_not (a : Nat) (ha : a < 4294967296) : bits .xor .u32 (a : Int) 4294967295 = ((a ^^^ 4294967295 : Nat) : Int) := u32_xor a 4294967295 ha (by omega)
theorem u32_poly (a : Nat) (ha : a < 4294967296) : bits .xor .u32 ((a : Int) / 2) 3988292384 = ((a / 2 ^^^ 3988292384 : Nat) : Int) := by
  have e : ((a : Int) / 2) = ((a / 2 : Nat) : Int) := by omega
  rw [e]; exact u32_xor (a / 2) 3988292384 (by omega) (by omega)
theorem xor_lt32 (a b : Nat) (ha : a < 4294967296) (hb : b < 4294967296) : a ^^^ b < 4294967296 := Nat.xor_lt_two_pow (n := 32) ha hb

/-- One bit of the register. -/
def crcBit (r : Nat) : Nat := if r % 2 = 1 then (r / 2) ^^^ 3988292384 else r / 2
def crcBits : Nat → Nat → Nat
  | 0, r => r
  | n + 1, r => crcBits n (crcBit r)
/-- A byte is taken in. -/
def crcByte (r : Nat) (b : UInt8) : Nat := crcBits 8 (r ^^^ b.toNat)
def crcAll (r : Nat) : List UInt8 → Nat
  | [] => r
  | b :: l => crcAll (crcByte r b) l
/-- The CRC of what has that CRC, and a text behind it. -/
def crcMore (c : Nat) (l : List UInt8) : Nat := crcAll (c ^^^ 4294967295) l ^^^ 4294967295

theorem crcBit_lt (r : Nat) (h : r < 4294967296) : crcBit r < 4294967296 := by
  unfold crcBit
  split
  · exact xor_lt32 _ _ (by omega) (by omega)
  · omega
theorem crcBits_lt (n : Nat) : ∀ r, r < 4294967296 → crcBits n r < 4294967296 := by
  induction n with
  | zero => intro r h; exact h
  | succ n ih => intro r h; exact ih _ (crcBit_lt r h)
theorem crcByte_lt (r : Nat) (b : UInt8) (h : r < 4294967296) : crcByte r b < 4294967296 :=
  crcBits_lt 8 _ (xor_lt32 _ _ h (by have := b.toNat_lt; omega))
theorem crcAll_lt (l : List UInt8) : ∀ r, r < 4294967296 → crcAll r l < 4294967296 := by
  induction l with
  | nil => intro r h; exact h
  | cons b l ih => intro r h; exact ih _ (crcByte_lt r b h)
theorem crcMore_lt (c : Nat) (l : List UInt8) (h : c < 4294967296) : crcMore c l < 4294967296 :=
  xor_lt32 _ _ (crcAll_lt l _ (xor_lt32 _ _ h (by omega))) (by omega)

theorem bit_yes (R : Nat) (h : R % 2 = 1) : crcBit R = (R / 2) ^^^ 3988292384 := by unfold crcBit; rw [if_pos h]
theorem bit_no (R : Nat) (h : R % 2 = 0) : crcBit R = R / 2 := by unfold crcBit; rw [if_neg (by omega)]
theorem bits_step (m R T : Nat) (hm : m < 8) (h : crcBits (8 - m) R = T) : crcBits (8 - (m + 1)) (crcBit R) = T := by
  have e : 8 - m = (8 - (m + 1)) + 1 := by omega
  rw [e] at h; exact h
theorem all_step (s : ByteArray) (k R T : Nat) (hk : k < s.size) (h : crcAll R (s.data.toList.drop k) = T) : crcAll (crcByte R s[k]) (s.data.toList.drop (k + 1)) = T := by
  have h' : k < s.data.toList.length := by simpa using hk
  rw [List.drop_eq_getElem_cons h'] at h
  exact h
theorem all_end (s : ByteArray) (k R T : Nat) (hk : s.size ≤ k) (h : crcAll R (s.data.toList.drop k) = T) : R = T := by
  rw [List.drop_eq_nil_of_le (by simpa using hk)] at h; exact h
end Go.Proofs.Ytiknoncalgifmaa
