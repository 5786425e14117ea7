/- The bytes of a disk, counted over all sectors; what is read of them, and what is patched into them. -/
import Derived.Test.YtipeelkmmjgehaaDskW
namespace Go.Proofs.Ytipeelkmmjgehaa
open Go Go.RowKit
/-- The byte p of all sectors. -/
def dB (F : Nat → ByteArray) (p : Nat) : UInt8 := bF (F (p / 64)) (p % 64)
/-- n bytes from p on. -/
def dL (F : Nat → ByteArray) (p n : Nat) : List UInt8 := (List.range n).map (fun i => dB F (p + i))
theorem dL_len (F : Nat → ByteArray) (p n : Nat) : (dL F p n).length = n := by simp [dL]
theorem dL_at (F : Nat → ByteArray) (p n i : Nat) (h : i < n) : (dL F p n)[i]? = some (dB F (p + i)) := by simp [dL, h]
theorem dL_bF (F : Nat → ByteArray) (p n i : Nat) (h : i < n) : bF ⟨(dL F p n).toArray⟩ i = dB F (p + i) := by
  simp [bF, dL, h]
theorem bF_lst (l : List UInt8) (i : Nat) : bF ⟨l.toArray⟩ i = l.getD i 0 := rfl
theorem dL_size (F : Nat → ByteArray) (p n : Nat) : (⟨(dL F p n).toArray⟩ : ByteArray).size = n := by
  show (dL F p n).toArray.size = n
  simp [dL]
theorem sec_range (t : ByteArray) (h : t.size = 64) : t.data.toList = (List.range 64).map (bF t) := by
  apply List.ext_getElem?
  intro j
  by_cases hj : j < 64
  · rw [bF_at t 64 h j hj]; simp [hj]
  · rw [List.getElem?_eq_none (by show t.size ≤ j; omega), List.getElem?_eq_none (by simp; omega)]
theorem dL_add (F : Nat → ByteArray) (p m n : Nat) : dL F p (m + n) = dL F p m ++ dL F (p + m) n := by
  simp [dL, List.range_add, Nat.add_assoc]
theorem dL_sec (F : Nat → ByteArray) (s : Nat) (h : (F s).size = 64) : dL F (64 * s) 64 = (F s).data.toList := by
  rw [sec_range _ h]
  unfold dL
  apply List.map_congr_left
  intro j hj
  have hj2 := List.mem_range.1 hj
  unfold dB
  rw [show (64 * s + j) / 64 = s by omega, show (64 * s + j) % 64 = j by omega]
theorem catL_dL (F : Nat → ByteArray) (a : Nat) : ∀ n, (∀ j, j < n → (F (a + j)).size = 64) → catL F a n = dL F (64 * a) (64 * n)
  | 0, _ => rfl
  | n + 1, h => by
    show catL F a n ++ (F (a + n)).data.toList = _
    rw [catL_dL F a n (fun j hj => h j (by omega)), ← dL_sec F (a + n) (h n (by omega)), show 64 * (n + 1) = 64 * n + 64 by omega, dL_add, show 64 * a + 64 * n = 64 * (a + n) by omega]
/-- The byte p of all sectors, with a text in the place of those from at on. -/
def pB (F : Nat → ByteArray) (p0 : Nat) (t : ByteArray) (p : Nat) : UInt8 := if p0 ≤ p ∧ p < p0 + t.size then bF t (p - p0) else dB F p
/-- The sector s, with a text in the place of the bytes from p0 on. -/
def patS (F : Nat → ByteArray) (p0 : Nat) (t : ByteArray) (s : Nat) : ByteArray := ⟨((List.range 64).map (fun j => pB F p0 t (64 * s + j))).toArray⟩
/-- How many sectors n bytes from p on touch. -/
def touchN (p n : Nat) : Nat := if n = 0 then 0 else (p % 64 + n + 63) / 64
/-- The writes, with those of a patch behind them. -/
def patX (X : Nat → ByteArray) (nC : Nat) (F : Nat → ByteArray) (p0 : Nat) (t : ByteArray) (j : Nat) : ByteArray := if j < nC then X j else patS F p0 t (p0 / 64 + (j - nC))
theorem piece_pat (F : Nat → ByteArray) (p0 : Nat) (t : ByteArray) (f m i : Nat) (b : ByteArray) (hb : b.size = 64 * m) (hi : i < m) (h : ∀ j, j < 64 * m → bF b j = pB F p0 t (64 * f + j)) : pieceS b i = patS F p0 t (f + i) := by
  unfold pieceS patS
  congr 2
  apply List.map_congr_left
  intro j hj
  have hj2 := List.mem_range.1 hj
  unfold pieceF
  have h2 : 64 * i + j < 64 * m := by omega
  rw [hb, if_pos h2, h _ h2]
  congr 1
  omega
theorem wL_pat (A : Nat → Int) (X : Nat → ByteArray) (nC : Nat) (F : Nat → ByteArray) (p0 : Nat) (t : ByteArray) (f m : Nat) (b : ByteArray) (hf : f = p0 / 64) (hb : b.size = 64 * m) (h : ∀ j, j < 64 * m → bF b j = pB F p0 t (64 * f + j)) : wL (wrA A nC (f : Int)) (wrX X nC b) (nC + m) = wL (wrA A nC (f : Int)) (patX X nC F p0 t) (nC + m) := by
  unfold wL
  apply List.map_congr_left
  intro j hj
  have hj2 := List.mem_range.1 hj
  show cWr _ _ (j / 2) (j % 2) = cWr _ _ (j / 2) (j % 2)
  unfold cWr
  split
  · rfl
  · congr 1
    unfold wrX patX
    split
    · rfl
    · rw [piece_pat F p0 t f m (j / 2 - nC) b hb (by omega) h, hf]
theorem manyW_64 (b : ByteArray) (m : Nat) (hb : b.size = 64 * m) : manyW b = m := by unfold manyW; omega
end Go.Proofs.Ytipeelkmmjgehaa
