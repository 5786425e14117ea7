/- Bits as cells. No program is named here. -/
import Derived.Test.YtdoodkabmeojmaaDoorBitsM
import Derived.Deep.AppendLies
namespace Go.Proofs.YtdoodkabmeojmaaDoor
open Go.RowKit
/-- The cells of bits. -/
def bitC (l : List (Int × Bool)) : List Value := l.flatMap fun x => [.int .i64 x.1, .bool x.2]
theorem bitC_len : ∀ l, (bitC l).length = l.length * 2
  | [] => rfl
  | x :: l => by
    show (bitC l).length + 2 = (l.length + 1) * 2
    rw [bitC_len l]; omega
theorem bitC_snoc (l : List (Int × Bool)) (x : Int × Bool) : bitC (l ++ [x]) = bitC l ++ [.int .i64 x.1, .bool x.2] := by simp [bitC]
theorem bitC_at : ∀ (l : List (Int × Bool)) (j : Nat) (x : Int × Bool), l[j]? = some x → (bitC l)[2 * j]? = some (.int .i64 x.1) ∧ (bitC l)[2 * j + 1]? = some (.bool x.2)
  | [], j, x, h => by simp at h
  | y :: l, 0, x, h => by
    have e : y = x := by simpa using h
    subst e
    exact ⟨rfl, rfl⟩
  | y :: l, j + 1, x, h => by
    have h2 := bitC_at l j x (by simpa using h)
    show (Value.int .i64 y.1 :: Value.bool y.2 :: bitC l)[2 * (j + 1)]? = _ ∧ (Value.int .i64 y.1 :: Value.bool y.2 :: bitC l)[2 * (j + 1) + 1]? = _
    rw [show 2 * (j + 1) = 2 * j + 1 + 1 by omega, List.getElem?_cons_succ, List.getElem?_cons_succ, List.getElem?_cons_succ, List.getElem?_cons_succ]
    exact h2
/-- Bits that a call has gathered are bits in memory. -/
theorem own_bits {w : World} {base e : Nat} {v : Value} {l : List (Int × Bool)} (h : w.ownsRow base e 2 v l.length (bitC l)) : BitsI w w.heap.size v l := by
  have h0 := h
  obtain ⟨_, ⟨rfl, hn⟩ | ⟨g, cap, cur, rfl, hg, hb, hc, _⟩⟩ := h
  · exact ⟨none, 0, by rw [hn], by omega, .inl (List.length_eq_zero_iff.1 hn)⟩
  · refine ⟨_, cap, rfl, hc, .inr ⟨g, 0, rfl, (h0.lt g rfl).2, fun j x hx => ?_⟩⟩
    have hj := (List.getElem?_eq_some_iff.1 hx).1
    rw [Nat.zero_add, h0.cellAt (2 * j) (by omega), h0.cellAt (2 * j + 1) (by omega)]
    exact bitC_at l j x hx
end Go.Proofs.YtdoodkabmeojmaaDoor
