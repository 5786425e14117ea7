/- Ctr, twice, is the text; its beginning is Ctr of the beginning; the first key of the rounds is the key. No program is walked here. -/
import Derived.Test.YtgbbfdcfiofneaaAesCtr
import Derived.Test.YtgbbfdcfiofneaaAesKs
namespace Go.Proofs.Ytgbbfdcfiofneaa
open Go Go.RowKit
attribute [local irreducible] times sbox encF ctrB
theorem data_take (b : ByteArray) (k : Nat) : (b.extract 0 k).data.toList = b.data.toList.take k := by
  rw [ByteArray.data_extract, Array.toList_extract, List.extract_eq_take_drop]; simp
theorem bF_take (b : ByteArray) (k j : Nat) (hj : j < k) : bF (b.extract 0 k) j = bF b j := by
  unfold bF
  rw [data_take, List.getD_eq_getElem?_getD, List.getD_eq_getElem?_getD, List.getElem?_take_of_lt hj]
theorem bF_ctrL (K : Nat → UInt8) (N : Nat) (T : Nat → UInt8) (n j : Nat) (hj : j < n) : bF ⟨(ctrL K N T n).toArray⟩ j = ctrF K N T j := by
  unfold bF
  show (ctrL K N T n).toArray.toList.getD j 0 = _
  rw [List.getD_eq_getElem?_getD, List.toList_toArray, ctrL, List.getElem?_map, List.getElem?_range hj]; rfl
theorem size_ctrL (K : Nat → UInt8) (N : Nat) (T : Nat → UInt8) (n : Nat) : (⟨(ctrL K N T n).toArray⟩ : ByteArray).size = n := by rw [size_mk]; simp [ctrL]
theorem list_bF (b : ByteArray) : b.data.toList = (List.range b.size).map (bF b) := by
  apply List.ext_getElem?
  intro j
  by_cases hj : j < b.size
  · rw [bF_at b b.size rfl j hj, List.getElem?_map, List.getElem?_range hj]; rfl
  · have e : b.data.toList.length = b.size := rfl
    rw [List.getElem?_eq_none (by omega), List.getElem?_eq_none (by simp; omega)]
theorem ctrL_congr {K : Nat → UInt8} {N : Nat} {T U : Nat → UInt8} {n : Nat} (h : ∀ j, j < n → ctrF K N T j = U j) : ctrL K N T n = (List.range n).map U := by
  unfold ctrL
  apply List.map_congr_left
  intro j hj
  exact h j (List.mem_range.1 hj)
theorem ctrS_yes (key : ByteArray) (n : Int) (text : ByteArray) (h1 : key.size = 16) (h2 : 0 ≤ n) (h3 : text.size ≤ 20000) : ctrS key n text = ⟨(ctrL (kB (keyF key)) n.toNat (bF text) text.size).toArray⟩ := if_pos ⟨h1, h2, h3⟩
theorem ctrS_size (key : ByteArray) (n : Int) (text : ByteArray) (h1 : key.size = 16) (h2 : 0 ≤ n) (h3 : text.size ≤ 20000) : (ctrS key n text).size = text.size := by
  rw [ctrS_yes key n text h1 h2 h3, size_ctrL]
theorem ctrS_twice (key : ByteArray) (n : Int) (text : ByteArray) (h1 : key.size = 16) (h2 : 0 ≤ n) (h3 : text.size ≤ 20000) : ctrS key n (ctrS key n text) = text := by
  have hs := ctrS_size key n text h1 h2 h3
  rw [ctrS_yes key n (ctrS key n text) h1 h2 (by omega), hs]
  apply ByteArray.ext
  rw [← Array.toList_inj]
  show (ctrL _ _ _ _).toArray.toList = _
  rw [List.toList_toArray, list_bF text]
  apply ctrL_congr
  intro j hj
  rw [ctrF, ctrS_yes key n text h1 h2 h3, bF_ctrL _ _ _ _ _ hj, ctrF, UInt8.xor_assoc, UInt8.xor_self, UInt8.xor_zero]
theorem ctrS_pre (key : ByteArray) (n : Int) (text : ByteArray) (k : Nat) (h1 : key.size = 16) (h2 : 0 ≤ n) (h3 : text.size ≤ 20000) (hk : k ≤ text.size) : ctrS key n (text.extract 0 k) = (ctrS key n text).extract 0 k := by
  have hs : (text.extract 0 k).size = k := by rw [ByteArray.size_extract]; omega
  rw [ctrS_yes key n (text.extract 0 k) h1 h2 (by omega), hs]
  apply ByteArray.ext
  rw [← Array.toList_inj, data_take, ctrS_yes key n text h1 h2 h3]
  show (ctrL _ _ _ _).toArray.toList = (ctrL _ _ _ _).toArray.toList.take k
  rw [List.toList_toArray, List.toList_toArray]
  have e : (ctrL (kB (keyF key)) n.toNat (bF text) text.size).take k = (List.range k).map (ctrF (kB (keyF key)) n.toNat (bF text)) := by
    unfold ctrL
    rw [← List.map_take, List.take_range, Nat.min_eq_left hk]
  rw [e]
  apply ctrL_congr
  intro j hj
  rw [ctrF, ctrF, bF_take text k j hj]
theorem ctrS_no (key : ByteArray) (n : Int) (text : ByteArray) (h : ¬ (key.size = 16 ∧ 0 ≤ n)) : ctrS key n text = ⟨#[]⟩ := if_neg (fun x => h ⟨x.1, x.2.1⟩)
theorem roundKey_zero (key : ByteArray) (h : key.size = 16) : roundKey (kB (keyF key)) 0 = key := by
  apply ByteArray.ext
  rw [← Array.toList_inj]
  show ((List.range 16).map fun j => kB (keyF key) (16 * 0 + j)).toArray.toList = _
  rw [List.toList_toArray, list_bF key, h]
  apply List.map_congr_left
  intro j hj
  have hj := List.mem_range.1 hj
  rw [show 16 * 0 + j = j by omega, kB_lo _ _ hj]; rfl
end Go.Proofs.Ytgbbfdcfiofneaa
