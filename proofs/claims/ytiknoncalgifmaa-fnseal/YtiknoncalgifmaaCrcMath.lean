/- A CRC tells a turned byte; it goes on from text to text. No program is named here. -/
import Derived.Test.YtiknoncalgifmaaSealS
namespace Go.Proofs.Ytiknoncalgifmaa
open Go.RowKit

theorem xor_cancel {a b p : Nat} (h : a ^^^ p = b ^^^ p) : a = b := by
  have := congrArg (· ^^^ p) h
  simpa [Nat.xor_assoc] using this
theorem crcBit_inj {a b : Nat} (ha : a < 4294967296) (hb : b < 4294967296) (h : crcBit a = crcBit b) : a = b := by
  have top : ∀ x y : Nat, x < 4294967296 → y < 4294967296 → x / 2 ^^^ 3988292384 ≠ y / 2 := by
    intro x y hx hy e
    have e1 := congrArg (fun n : Nat => n.testBit 31) e
    simp only [Nat.testBit_xor] at e1
    have h1 : (x / 2).testBit 31 = false := Nat.testBit_lt_two_pow (by omega)
    have h2 : (y / 2).testBit 31 = false := Nat.testBit_lt_two_pow (by omega)
    have h3 : (3988292384 : Nat).testBit 31 = true := by decide
    rw [h1, h2, h3] at e1
    exact absurd e1 (by decide)
  unfold crcBit at h
  by_cases h1 : a % 2 = 1 <;> by_cases h2 : b % 2 = 1
  · rw [if_pos h1, if_pos h2] at h
    have := xor_cancel h; omega
  · rw [if_pos h1, if_neg h2] at h
    exact absurd h (top a b ha hb)
  · rw [if_neg h1, if_pos h2] at h
    exact absurd h.symm (top b a hb ha)
  · rw [if_neg h1, if_neg h2] at h; omega
theorem crcBits_inj (n : Nat) : ∀ a b, a < 4294967296 → b < 4294967296 → crcBits n a = crcBits n b → a = b := by
  induction n with
  | zero => intro a b _ _ h; exact h
  | succ n ih => intro a b ha hb h; exact crcBit_inj ha hb (ih _ _ (crcBit_lt a ha) (crcBit_lt b hb) h)
theorem crcByte_inj_r {r r' : Nat} {b : UInt8} (hr : r < 4294967296) (hr' : r' < 4294967296) (h : crcByte r b = crcByte r' b) : r = r' :=
  xor_cancel (crcBits_inj 8 _ _ (xor_lt32 _ _ hr (by have := b.toNat_lt; omega)) (xor_lt32 _ _ hr' (by have := b.toNat_lt; omega)) h)
theorem crcByte_inj_b {r : Nat} {b b' : UInt8} (hr : r < 4294967296) (h : crcByte r b = crcByte r b') : b = b' := by
  have h1 := crcBits_inj 8 _ _ (xor_lt32 _ _ hr (by have := b.toNat_lt; omega)) (xor_lt32 _ _ hr (by have := b'.toNat_lt; omega)) h
  rw [Nat.xor_comm r, Nat.xor_comm r] at h1
  exact UInt8.toNat_inj.1 (xor_cancel h1)
theorem crcAll_inj (l : List UInt8) : ∀ r r', r < 4294967296 → r' < 4294967296 → crcAll r l = crcAll r' l → r = r' := by
  induction l with
  | nil => intro r r' _ _ h; exact h
  | cons b l ih => intro r r' hr hr' h; exact crcByte_inj_r hr hr' (ih _ _ (crcByte_lt r b hr) (crcByte_lt r' b hr') h)
theorem crcAll_append (l m : List UInt8) : ∀ r, crcAll r (l ++ m) = crcAll (crcAll r l) m := by
  induction l with
  | nil => intro r; rfl
  | cons b l ih => intro r; exact ih _
theorem crcMore_more (l m : List UInt8) : crcMore (crcMore 0 l) m = crcMore 0 (l ++ m) := by
  unfold crcMore
  rw [crcAll_append, Nat.xor_assoc, Nat.xor_self, Nat.xor_zero]
theorem crc_turn (l : List UInt8) (i : Nat) (y : UInt8) (hi : i < l.length) (hy : y ≠ l[i]) : crcMore 0 (l.set i y) ≠ crcMore 0 l := by
  have e1 : l.set i y = l.take i ++ y :: l.drop (i + 1) := List.set_eq_take_append_cons_drop .. |>.trans (by rw [if_pos hi])
  have e2 : l = l.take i ++ l[i] :: l.drop (i + 1) := by rw [List.getElem_cons_drop]; simp
  intro h
  unfold crcMore at h
  have h1 := xor_cancel h
  rw [e1] at h1
  have h2 : crcAll (0 ^^^ 4294967295) l = crcAll (0 ^^^ 4294967295) (l.take i ++ l[i] :: l.drop (i + 1)) := by rw [← e2]
  rw [h2, crcAll_append, crcAll_append] at h1
  have hs : crcAll (0 ^^^ 4294967295) (l.take i) < 4294967296 := crcAll_lt _ _ (by decide)
  have h3 := crcAll_inj (l.drop (i + 1)) _ _ (crcByte_lt _ y hs) (crcByte_lt _ l[i] hs) h1
  exact hy (crcByte_inj_b hs h3)

theorem byte_of (n : Nat) (h : n < 256) (m : Nat) (h2 : m < 256) (e : UInt8.ofNat n = UInt8.ofNat m) : n = m := by
  have := congrArg UInt8.toNat e
  simp [UInt8.toNat_ofNat'] at this
  omega
theorem four_inj {c d : Nat} (hc : c < 4294967296) (hd : d < 4294967296) (h : four c = four d) : c = d := by
  unfold four at h
  simp only [List.cons.injEq, and_true] at h
  obtain ⟨h0, h1, h2, h3⟩ := h
  have a0 := byte_of _ (by omega) _ (by omega) h0
  have a1 := byte_of _ (by omega) _ (by omega) h1
  have a2 := byte_of _ (by omega) _ (by omega) h2
  have a3 := byte_of _ (by omega) _ (by omega) h3
  omega
end Go.Proofs.Ytiknoncalgifmaa
