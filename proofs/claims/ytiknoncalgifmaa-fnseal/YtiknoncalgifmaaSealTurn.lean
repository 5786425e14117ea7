/- A sealed text is one; with a byte turned it is none. No walk here. -/
import Derived.Test.YtiknoncalgifmaaUnsealD
import Derived.Test.YtiknoncalgifmaaCrcMath
namespace Go.Proofs.Ytiknoncalgifmaa
open Go.RowKit

theorem extract_list (s : ByteArray) (a b : Nat) : (s.extract a b).data.toList = (s.data.toList.drop a).take (b - a) := by
  simp [ByteArray.data_extract, Array.toList_extract, List.extract]
theorem size_list (s : ByteArray) : s.data.toList.length = s.size := by simp
theorem sealed_list (s : ByteArray) : Sealed s ↔ four (crcMore 0 (s.data.toList.take (s.size - 4))) = s.data.toList.drop (s.size - 4) := by
  unfold Sealed bodyOf
  have e1 : (s.extract 0 (s.size - 4)).data.toList = s.data.toList.take (s.size - 4) := by rw [extract_list]; simp
  have e2 : (s.extract (s.size - 4) s.size).data.toList = s.data.toList.drop (s.size - 4) := by
    rw [extract_list, List.take_of_length_le]
    rw [List.length_drop, size_list]; omega
  rw [e1]
  constructor
  · intro h
    rw [← e2, ← h]; simp [fourB]
  · intro h
    apply ByteArray.ext
    apply Array.toList_inj.1
    rw [e2, ← h]; simp [fourB]
theorem seal_list (t : ByteArray) : (sealB t).data.toList = t.data.toList ++ four (crcMore 0 t.data.toList) := by simp [sealB, fourB]
theorem seal_size (t : ByteArray) : (sealB t).size = t.size + 4 := by rw [← size_list, seal_list, List.length_append, size_list]; rfl
theorem sealed_self (t : ByteArray) : Sealed (sealB t) := by
  rw [sealed_list, seal_size, seal_list]
  have e : t.size + 4 - 4 = t.data.toList.length := by rw [size_list]; omega
  rw [e, List.take_left, List.drop_left]
theorem body_self (t : ByteArray) : bodyOf (sealB t) = t := by
  apply ByteArray.ext
  apply Array.toList_inj.1
  unfold bodyOf
  rw [extract_list, seal_size, seal_list]
  have e : t.size + 4 - 4 - 0 = t.data.toList.length := by rw [size_list]; omega
  rw [e, List.drop_zero, List.take_left]
theorem unsealed_turn (t : ByteArray) (i : Nat) (y : UInt8) (hi : i < (sealB t).data.toList.length) (hy : y ≠ (sealB t).data.toList[i]) : ¬ Sealed ⟨((sealB t).data.toList.set i y).toArray⟩ := by
  rw [sealed_list]
  have hsz : (⟨((sealB t).data.toList.set i y).toArray⟩ : ByteArray).size - 4 = t.data.toList.length := by
    rw [size_mk, List.length_set, size_list, seal_size, size_list]; omega
  have hdat : (⟨((sealB t).data.toList.set i y).toArray⟩ : ByteArray).data.toList = (sealB t).data.toList.set i y := by simp
  rw [hsz, hdat]
  clear hsz hdat
  revert hi hy
  rw [seal_list]
  intro hi hy h
  by_cases hlt : i < t.data.toList.length
  · rw [List.set_append_left _ _ hlt] at h
    have e1 : (t.data.toList.set i y ++ four (crcMore 0 t.data.toList)).take t.data.toList.length = t.data.toList.set i y := List.take_left' (by simp)
    have e2 : (t.data.toList.set i y ++ four (crcMore 0 t.data.toList)).drop t.data.toList.length = four (crcMore 0 t.data.toList) := List.drop_left' (by simp)
    rw [e1, e2] at h
    have h1 := four_inj (crcMore_lt 0 _ (by omega)) (crcMore_lt 0 _ (by omega)) h
    refine crc_turn t.data.toList i y hlt ?_ h1
    rw [List.getElem_append_left hlt] at hy
    exact hy
  · rw [List.set_append_right _ _ (by omega), List.take_left, List.drop_left] at h
    have hl : i - t.data.toList.length < (four (crcMore 0 t.data.toList)).length := by rw [List.length_append] at hi; omega
    rw [List.getElem_append_right (by omega)] at hy
    have h2 : (four (crcMore 0 t.data.toList))[i - t.data.toList.length]? = ((four (crcMore 0 t.data.toList)).set (i - t.data.toList.length) y)[i - t.data.toList.length]? := by rw [← h]
    rw [List.getElem?_set_self hl, List.getElem?_eq_getElem hl] at h2
    exact hy (Option.some.inj h2).symm
theorem xor_turn (a x : Nat) (ha : a < 256) (hx0 : 0 < x) (hx : x < 256) : ∃ Y : Nat, bits .xor .u8 (a : Int) (x : Int) = (Y : Int) ∧ Y < 256 ∧ Y ≠ a := by
  have hlt : a ^^^ x < 2 ^ 8 := Nat.xor_lt_two_pow (by omega) (by omega)
  have h1 : (BitVec.ofInt 8 (a : Int)).toNat = a := by
    rw [BitVec.ofInt_natCast, BitVec.toNat_ofNat]; exact Nat.mod_eq_of_lt (by omega)
  have h2 : (BitVec.ofInt 8 (x : Int)).toNat = x := by
    rw [BitVec.ofInt_natCast, BitVec.toNat_ofNat]; exact Nat.mod_eq_of_lt (by omega)
  refine ⟨a ^^^ x, ?_, by omega, ?_⟩
  · show IntKind.u8.wrap ((BitVec.ofInt 8 (a : Int) ^^^ BitVec.ofInt 8 (x : Int)).toNat : Int) = _
    rw [BitVec.toNat_xor, h1, h2, IntKind.wrap_u8]
    omega
  · intro h
    have h3 : x ^^^ a = 0 ^^^ a := by rw [Nat.xor_comm, h]; simp
    have := xor_cancel h3
    omega
end Go.Proofs.Ytiknoncalgifmaa
