/- The walk over the model's l07Pack. -/
import Derived.Test.YtdoodkabmeojmaaPackS
import Derived.Test.YtdoodkabmeojmaaPutNumW
import Derived.Test.YtdoodkabmeojmaaMatchG
import Derived.Test.YtdoodkabmeojmaaRangeEnc
namespace Go.Proofs.Ytdoodkabmeojmaa
open Go.RowKit
/-- What is squeezed of a text that is not too long. -/
def packB (t : ByteArray) : ByteArray := ⟨(encNum (foldNum t.size)).toArray⟩ ++ ⟨(codeOf (toksBits (parseL (bF t) t.size))).toArray⟩
/-- Pack. -/
def packS (t : ByteArray) : ByteArray := if t.size ≤ 4000 then packB t else ⟨#[]⟩
theorem run_rest {P : Program} (w : World) (t : TypeId) (s : ByteArray) (A : Nat) (h : P.underlying t = some .string) (hS : A ≤ s.size) :
    (Instr.slice t (.string s) (some (.int .i64 (A : Int))) none none).run P w = .ok (.string (s.extract A s.size)) w := by
  rw [run_slice_string_from_if w t s .i64 _ h, if_pos (by omega), Int.toNat_natCast]
theorem bitsN_toI (l : List (Nat × Bool)) : bitsN (l.map toI) = l := by
  unfold bitsN
  rw [List.map_map]
  conv => rhs; rw [← List.map_id l]
  apply List.map_congr_left
  intro x _
  show ((x.1 : Int).toNat, x.2) = x
  rw [Int.toNat_natCast]
theorem encNum_le : ∀ k u, u < 128 ^ (k + 1) → (encNum u).length ≤ k + 1
  | 0, u, h => by
    rw [encNum, dif_pos (by simpa using h)]; exact Nat.le_refl _
  | k + 1, u, h => by
    rw [encNum]
    split
    · exact Nat.le_add_left _ _
    · rw [List.length_cons]
      have := encNum_le k (u / 128) (by rw [Nat.pow_succ] at h; omega)
      omega
theorem codeOf_len (l : List (Nat × Bool)) : (codeOf l).length ≤ l.length + 4 := by
  rw [codeOf, bytesOf_len]
  have h := run_n_le l rc0
  have h2 : rc0.n = 0 := rfl
  omega
theorem parseL_len (T : Nat → UInt8) (N : Nat) : (parseL T N).length ≤ N := by
  have := parseG_len T N N 0
  show (parseG T N N 0).length ≤ N
  omega
theorem packB_size (t : ByteArray) (h : t.size ≤ 4000) : (packB t).size ≤ 68020 := by
  have e : (packB t).size = (encNum (foldNum t.size)).length + (codeOf (toksBits (parseL (bF t) t.size))).length := by
    have e1 := size_mk (encNum (foldNum t.size))
    have e2 := size_mk (codeOf (toksBits (parseL (bF t) t.size)))
    rw [← e1, ← e2]
    exact ByteArray.size_append
  have h1 := codeOf_len (toksBits (parseL (bF t) t.size))
  have h2 := toksBits_len (parseL (bF t) t.size)
  have h3 := parseL_len (bF t) t.size
  have h4 := encNum_le 1 (foldNum t.size) (by unfold foldNum; rw [if_neg (by omega)]; show (2 * (t.size : Int)).toNat < 16384; omega)
  omega
set_option maxRecDepth 100000 in
set_option maxHeartbeats 800000 in
theorem spec_pack0 (t : ByteArray) (w : World) (h : t.size ≤ 4000) :
    Calls Try.prog 59 #[.string t] w fun e w' => e = .returned (.string (packB t)) ∧ Below w.heap.size w w' := by
  have S1 := hide (fun w => spec_putNum (t.size : Int) w (by omega) (by omega))
  have S2 := hide (fun w => spec_parse0 t w h)
  have h3 := parseL_len (bF t) t.size
  have HOK := hide (show ∀ x ∈ parseL (bF t) t.size, tokOk x = true from parseG_ok _ _ _ _)
  have h4 := encNum_le 1 (foldNum t.size) (by unfold foldNum; rw [if_neg (by omega)]; show (2 * (t.size : Int)).toNat < 16384; omega)
  have h1 := codeOf_len (toksBits (parseL (bF t) t.size))
  have h2 := toksBits_len (parseL (bF t) t.size)
  have HC := hide (toksBits_ctx (parseL (bF t) t.size))
  obtain ⟨X, hX⟩ : ∃ X : ByteArray, X = ⟨(encNum (foldNum t.size)).toArray⟩ := ⟨_, rfl⟩
  obtain ⟨Y, hY⟩ : ∃ Y : ByteArray, Y = ⟨(codeOf (toksBits (parseL (bF t) t.size))).toArray⟩ := ⟨_, rfl⟩
  have hXs : X.size ≤ 2 := by rw [hX, size_mk]; exact h4
  have hYs : Y.size ≤ 68020 := by rw [hY, size_mk]; omega
  have HE := hide (show packB t = X ++ Y by rw [hX, hY]; rfl)
  rw [← hX] at S1
  have HY := hide hY
  clear hX hY h1 h4
  generalize parseL (bF t) t.size = l at *
  go_enter Try.func59, Try.ntmps59
  go_wp2_with fail
  refine (S1.out _).mono ?_
  rintro e w1 ⟨rfl, hb1⟩
  have B1 := hide hb1
  clear hb1 S1
  go_wp2_with fail
  refine (S2.out _).mono ?_
  rintro e w2 ⟨v2, rfl, own2, hb2⟩
  have B2 := hide (B1.out.trans (hb2.mono B1.out.size))
  have T2 := hide (own_toks own2)
  clear hb2 S2 B1 own2
  go_wp2_with fail
  refine (spec_tokBits v2 l w2 (by omega) HOK.out T2.out).mono ?_
  rintro e w3 ⟨v3, rfl, own3, hb3⟩
  have B3 := hide (B2.out.trans (hb3.mono B2.out.size))
  have T3 := (own_bits own3).nat (fun x hx => by
    obtain ⟨y, hy, rfl⟩ := List.mem_map.1 hx
    have := HC.out y hy
    exact decide_eq_true ⟨by show (0 : Int) ≤ (y.1 : Int); omega, by show (y.1 : Int) < 1600; omega⟩)
  rw [bitsN_toI] at T3
  have SE := hide (spec_encode v3 (toksBits l) w3 (by omega) HC.out T3)
  rw [← HY.out] at SE
  clear hb3 B2 own3 T3 T2
  go_wp2_with fail
  refine SE.out.mono ?_
  rintro e w4 ⟨rfl, hb4⟩
  have B4 := hide (B3.out.trans (hb4.mono B3.out.size))
  clear hb4 B3 SE
  go_wp2_with fail
  go_ret
  exact ⟨by rw [HE.out]; rfl, B4.out⟩
end Go.Proofs.Ytdoodkabmeojmaa
