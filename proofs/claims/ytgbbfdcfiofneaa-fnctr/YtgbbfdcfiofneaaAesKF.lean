/- The keys of AES, as functions on plain bytes. No program is named here. -/
import Derived.Test.YtgbbfdcfiofneaaAesF
namespace Go.Proofs.Ytgbbfdcfiofneaa
/-- What is put to the first byte of a turned word. -/
def rcN : Nat → Nat
  | 0 => 1
  | m + 1 => times (rcN m) 2
theorem rcN_lt : ∀ m, rcN m < 256
  | 0 => by show (1 : Nat) < 256; omega
  | m + 1 => times_lt _ _ (rcN_lt m)
/-- The i-th byte of the words of a key. -/
def kB (key : Nat → UInt8) (i : Nat) : UInt8 :=
  if _h : i < 16 then key i
  else kB key (i - 16) ^^^ (if i / 4 % 4 = 0 then sbox (kB key (4 * (i / 4 - 1) + (i % 4 + 1) % 4)).toNat ^^^ (if i % 4 = 0 then UInt8.ofNat (rcN (i / 16 - 1)) else 0) else kB key (i - 4))
/-- What a word is put together with: the byte r of the word in front of word i, turned where 4 divides i. -/
def tB (key : Nat → UInt8) (i r : Nat) : UInt8 :=
  if i % 4 = 0 then sbox (kB key (4 * (i - 1) + (r + 1) % 4)).toNat ^^^ (if r = 0 then UInt8.ofNat (rcN (i / 4 - 1)) else 0) else kB key (4 * i + r - 4)
theorem kB_lo (key : Nat → UInt8) (i : Nat) (h : i < 16) : kB key i = key i := by rw [kB, dif_pos h]
theorem kB_hi (key : Nat → UInt8) (i r : Nat) (hi : 4 ≤ i) (hr : r < 4) : kB key (4 * i + r) = kB key (4 * i - 16 + r) ^^^ tB key i r := by
  rw [kB, dif_neg (by omega), show 4 * i + r - 16 = 4 * i - 16 + r by omega, show (4 * i + r) / 4 = i by omega, show (4 * i + r) % 4 = r by omega, show (4 * i + r) / 16 - 1 = i / 4 - 1 by omega]
  rfl
def kL (key : Nat → UInt8) (n : Nat) : List UInt8 := (List.range n).map (kB key)
theorem kL_len (key : Nat → UInt8) (n : Nat) : (kL key n).length = n := by simp [kL]
theorem kL_at (key : Nat → UInt8) (n j : Nat) (h : j < n) : (kL key n)[j]? = some (kB key j) := by simp [kL, h]
theorem kL_succ (key : Nat → UInt8) (n : Nat) : kL key n ++ [kB key n] = kL key (n + 1) := by simp [kL, List.range_succ]
end Go.Proofs.Ytgbbfdcfiofneaa
