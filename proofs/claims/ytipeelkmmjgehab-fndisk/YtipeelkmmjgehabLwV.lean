/- Lists of elements of one cell behind a value, for the laws' helpers. No program is named here. -/
import Derived.Test.YtipeelkmmjgehabSrc
import Derived.WalkKit
import Derived.Below
import Derived.Deep.AppendLies
import Derived.Deep.OwnRows
namespace Go.Proofs.Ytipeelkmmjgehab
open Go.RowKit
/-- A list of n cells f behind the value v. -/
def valV (w : World) (v : Value) (n : Nat) (f : Nat → Value) : Prop :=
  ∃ ao cap, v = .slice ao n cap ∧ n ≤ cap ∧ (n = 0 ∨ ∃ g, ao = some ⟨g, 0, none⟩ ∧ g < w.heap.size ∧ ∀ j, j < n → w.cell? ⟨g, j, none⟩ = some (f j) ∧ w.frozen? ⟨g, j, none⟩ = false)
theorem valV.below {w w' : World} {v : Value} {n : Nat} {f : Nat → Value} (h : valV w v n f) (hb : Below w.heap.size w w') : valV w' v n f := by
  obtain ⟨ao, cap, rfl, hcap, h | ⟨g, rfl, hg, hc⟩⟩ := h
  · exact ⟨ao, cap, rfl, hcap, .inl h⟩
  · exact ⟨_, cap, rfl, hcap, .inr ⟨g, rfl, Nat.lt_of_lt_of_le hg hb.size, fun j hj => by rw [hb.cell (p := ⟨g, j, none⟩) hg, hb.frozen (p := ⟨g, j, none⟩) hg]; exact hc j hj⟩⟩
theorem valV.of_own {w : World} {base e n : Nat} {v : Value} {xs : List Value} {f : Nat → Value} (h : w.ownsRow base e 1 v n xs) (hf : ∀ j, j < n → xs[j]? = some (f j)) : valV w v n f := by
  have h0 := h
  obtain ⟨_, ⟨rfl, hn⟩ | ⟨g, cap, cur, rfl, hg, hb, hc, _⟩⟩ := h
  · exact ⟨none, 0, by rw [hn], by omega, .inl hn⟩
  · refine ⟨_, cap, rfl, hc, .inr ⟨g, rfl, (h0.lt g rfl).2, fun j hj => ⟨?_, h0.frozenAt j⟩⟩⟩
    rw [h0.cellAt j (by omega), hf j hj]
theorem valV.of_row {w : World} {g t n cap N : Nat} {f k : Nat → Value} (h : w.rowIs g t N f) (hn : n ≤ N) (hcap : n ≤ cap) (hk : ∀ j, j < n → k j = f j) : valV w (.slice (some ⟨g, 0, none⟩) n cap) n k :=
  ⟨_, cap, rfl, hcap, .inr ⟨g, rfl, h.lt, fun j hj => ⟨by rw [hk j hj]; exact h.cell (i := j) (by omega), h.frozen j⟩⟩⟩
theorem valV.kept {w w' : World} {v : Value} {n : Nat} {f : Nat → Value} {r : Option Nat} (h : valV w v n f) (hg : w.grownBy w' r) (hr : ∀ k, v.ownBlock = some k → some k ≠ r) : valV w' v n f := by
  obtain ⟨ao, cap, rfl, hcap, h | ⟨g, rfl, hl, hc⟩⟩ := h
  · exact ⟨ao, cap, rfl, hcap, .inl h⟩
  · have hne := hr g rfl
    exact ⟨_, cap, rfl, hcap, .inr ⟨g, rfl, Nat.lt_of_lt_of_le hl hg.size, fun j hj => by rw [hg.cell_far ⟨g, j, none⟩ hl hne, hg.frozen_far ⟨g, j, none⟩ hl hne]; exact hc j hj⟩⟩
theorem valV.congr {w : World} {v : Value} {n : Nat} {f k : Nat → Value} (h : valV w v n f) (e : ∀ j, j < n → f j = k j) : valV w v n k := by
  obtain ⟨ao, cap, rfl, hcap, h | ⟨g, rfl, hl, hc⟩⟩ := h
  · exact ⟨ao, cap, rfl, hcap, .inl h⟩
  · exact ⟨_, cap, rfl, hcap, .inr ⟨g, rfl, hl, fun j hj => by rw [← e j hj]; exact hc j hj⟩⟩
theorem grown_own {w w' : World} {v : Value} {B : Nat} (hg : w.grownBy w' v.ownBlock) (hB : B ≤ w.heap.size) (h : ∀ k, v.ownBlock = some k → B ≤ k) : Below B w w' := by
  cases e : v.ownBlock with
  | none => rw [e] at hg; exact (grownBy_toBelow hg).mono hB
  | some k => rw [e] at hg; exact grownBy_below hg (h k e) hB
/-- The value's block, if it has one, lies from B on and ahead of C. -/
def within (v : Value) (B C : Nat) : Prop := ∀ k, v.ownBlock = some k → B ≤ k ∧ k < C
theorem within.apart {v u : Value} {A B C D : Nat} (h : within v A B) (h2 : within u C D) (hb : B ≤ C ∨ D ≤ A) : ∀ k, v.ownBlock = some k → some k ≠ u.ownBlock := by
  intro k hk e
  have h3 := h k hk
  have h4 := h2 k e.symm
  omega
/-- A list of n elements of m cells each behind the value v: all cells f. -/
def valM (m : Nat) (w : World) (v : Value) (n : Nat) (f : Nat → Value) : Prop :=
  ∃ ao cap, v = .slice ao n cap ∧ n ≤ cap ∧ (n = 0 ∨ ∃ g, ao = some ⟨g, 0, none⟩ ∧ g < w.heap.size ∧ ∀ j, j < n * m → w.cell? ⟨g, j, none⟩ = some (f j) ∧ w.frozen? ⟨g, j, none⟩ = false)
theorem valM.below {m : Nat} {w w' : World} {v : Value} {n : Nat} {f : Nat → Value} (h : valM m w v n f) (hb : Below w.heap.size w w') : valM m w' v n f := by
  obtain ⟨ao, cap, rfl, hcap, h | ⟨g, rfl, hg, hc⟩⟩ := h
  · exact ⟨ao, cap, rfl, hcap, .inl h⟩
  · exact ⟨_, cap, rfl, hcap, .inr ⟨g, rfl, Nat.lt_of_lt_of_le hg hb.size, fun j hj => by rw [hb.cell (p := ⟨g, j, none⟩) hg, hb.frozen (p := ⟨g, j, none⟩) hg]; exact hc j hj⟩⟩
theorem valM.kept {m : Nat} {w w' : World} {v : Value} {n : Nat} {f : Nat → Value} {r : Option Nat} (h : valM m w v n f) (hg : w.grownBy w' r) (hr : ∀ k, v.ownBlock = some k → some k ≠ r) : valM m w' v n f := by
  obtain ⟨ao, cap, rfl, hcap, h | ⟨g, rfl, hl, hc⟩⟩ := h
  · exact ⟨ao, cap, rfl, hcap, .inl h⟩
  · have hne := hr g rfl
    exact ⟨_, cap, rfl, hcap, .inr ⟨g, rfl, Nat.lt_of_lt_of_le hl hg.size, fun j hj => by rw [hg.cell_far ⟨g, j, none⟩ hl hne, hg.frozen_far ⟨g, j, none⟩ hl hne]; exact hc j hj⟩⟩
theorem valM.of_own {m : Nat} {w : World} {base e n : Nat} {v : Value} {xs : List Value} {f : Nat → Value} (h : w.ownsRow base e m v n xs) (hf : ∀ j, j < n * m → xs[j]? = some (f j)) : valM m w v n f := by
  have h0 := h
  obtain ⟨_, ⟨rfl, hn⟩ | ⟨g, cap, cur, rfl, hg, hb, hc, _⟩⟩ := h
  · exact ⟨none, 0, by rw [hn], by omega, .inl hn⟩
  · refine ⟨_, cap, rfl, hc, .inr ⟨g, rfl, (h0.lt g rfl).2, fun j hj => ⟨?_, h0.frozenAt j⟩⟩⟩
    rw [h0.cellAt j hj, hf j hj]
end Go.Proofs.Ytipeelkmmjgehab
