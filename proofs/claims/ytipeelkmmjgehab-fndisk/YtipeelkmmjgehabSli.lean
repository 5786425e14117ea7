/- Slices of structs of several cells: in memory (sliI), and as rows of cells that may be written (rc). No program is named here. -/
import Derived.Test.YtipeelkmmjgehabLwV
namespace Go.Proofs.Ytipeelkmmjgehab
open Go.RowKit
/-- n elements of m cells each behind v, below B: c j i is the i-th cell of the j-th. -/
def sliI (m : Nat) (w : World) (B : Nat) (v : Value) (n : Nat) (c : Nat → Nat → Value) : Prop :=
  ∃ a cap, v = .slice a n cap ∧ n ≤ cap ∧ (n = 0 ∨ ∃ r o, a = some ⟨r, o, none⟩ ∧ r < B ∧ ∀ j, j < n → ∀ i, i < m → w.cell? ⟨r, o + m * j + i, none⟩ = some (c j i))
theorem sliI.below {m : Nat} {w w' : World} {B : Nat} {v : Value} {n : Nat} {c : Nat → Nat → Value} (h : sliI m w B v n c) (hb : Below B w w') : sliI m w' B v n c := by
  obtain ⟨a, cap, rfl, hc, h | ⟨r, o, rfl, hr, hcell⟩⟩ := h
  · exact ⟨a, cap, rfl, hc, .inl h⟩
  · exact ⟨_, cap, rfl, hc, .inr ⟨r, o, rfl, hr, fun j hj i hi => (hb.cell (p := ⟨r, o + m * j + i, none⟩) hr).trans (hcell j hj i hi)⟩⟩
theorem sliI.wide {m : Nat} {w : World} {B C : Nat} {v : Value} {n : Nat} {c : Nat → Nat → Value} (h : sliI m w B v n c) (hb : B ≤ C) : sliI m w C v n c := by
  obtain ⟨a, cap, rfl, hc, h | ⟨r, o, rfl, hr, hcell⟩⟩ := h
  · exact ⟨a, cap, rfl, hc, .inl h⟩
  · exact ⟨_, cap, rfl, hc, .inr ⟨r, o, rfl, by omega, hcell⟩⟩
theorem sliI.congr {m : Nat} {w : World} {B : Nat} {v : Value} {n : Nat} {c d : Nat → Nat → Value} (h : sliI m w B v n c) (e : ∀ j, j < n → ∀ i, i < m → c j i = d j i) : sliI m w B v n d := by
  obtain ⟨a, cap, rfl, hc, h | ⟨r, o, rfl, hr, hcell⟩⟩ := h
  · exact ⟨a, cap, rfl, hc, .inl h⟩
  · exact ⟨_, cap, rfl, hc, .inr ⟨r, o, rfl, hr, fun j hj i hi => by rw [← e j hj i hi]; exact hcell j hj i hi⟩⟩
theorem mul_lt {m n j i : Nat} (hj : j < n) (hi : i < m) : m * j + i < n * m := by
  have h1 : m * (j + 1) ≤ m * n := Nat.mul_le_mul_left m (by omega)
  rw [Nat.mul_add, Nat.mul_one, Nat.mul_comm m n] at h1
  omega
theorem valM.sli {m : Nat} {w : World} {v : Value} {n : Nat} {f : Nat → Value} (h : valM m w v n f) : sliI m w w.heap.size v n (fun j i => f (m * j + i)) := by
  obtain ⟨a, cap, rfl, hc, h | ⟨g, rfl, hg, hcell⟩⟩ := h
  · exact ⟨a, cap, rfl, hc, .inl h⟩
  · exact ⟨_, cap, rfl, hc, .inr ⟨g, 0, rfl, hg, fun j hj i hi => by rw [Nat.zero_add]; exact (hcell _ (mul_lt hj hi)).1⟩⟩
theorem valM.congr {m : Nat} {w : World} {v : Value} {n : Nat} {f k : Nat → Value} (h : valM m w v n f) (e : ∀ j, j < n * m → f j = k j) : valM m w v n k := by
  obtain ⟨ao, cap, rfl, hcap, h | ⟨g, rfl, hl, hc⟩⟩ := h
  · exact ⟨ao, cap, rfl, hcap, .inl h⟩
  · exact ⟨_, cap, rfl, hcap, .inr ⟨g, rfl, hl, fun j hj => by rw [← e j hj]; exact hc j hj⟩⟩
/-- N cells h in the block g that may be written. -/
structure rc (w : World) (g N : Nat) (h : Nat → Value) : Prop where
  lt : g < w.heap.size
  at_ : ∀ j, j < N → w.cell? ⟨g, j, none⟩ = some (h j) ∧ w.frozen? ⟨g, j, none⟩ = false
theorem rc.set {w : World} {g N : Nat} {h : Nat → Value} (H : rc w g N h) (a : Nat) (u : Value) : rc (w.setCell ⟨g, a, none⟩ u) g N (fun j => if j = a then u else h j) :=
  ⟨by simpa [World.setCell] using H.lt, fun j hj => ⟨by
    by_cases e : j = a
    · rw [if_pos e, e]; exact World.cell?_setCell_same _ _ _ (by rw [← e]; exact (H.at_ j hj).1)
    · rw [if_neg e, World.cell?_setCell_other _ _ _ _ (by intro e2; injection e2 with _ e3; exact e e3.symm)]; exact (H.at_ j hj).1, by
    rw [World.frozen?_setCell]; exact (H.at_ j hj).2⟩⟩
theorem rc.below {w w' : World} {g N : Nat} {h : Nat → Value} (H : rc w g N h) (hb : Below w.heap.size w w') : rc w' g N h :=
  ⟨Nat.lt_of_lt_of_le H.lt hb.size, fun j hj => by rw [hb.cell (p := ⟨g, j, none⟩) H.lt, hb.frozen (p := ⟨g, j, none⟩) H.lt]; exact H.at_ j hj⟩
theorem rc.of_row {w : World} {g t N : Nat} {f : Nat → Value} (h : w.rowIs g t N f) : rc w g N f := ⟨h.lt, fun j hj => ⟨h.cell (i := j) hj, h.frozen j⟩⟩
theorem rc.val {w : World} {g n m cap : Nat} {h k : Nat → Value} (H : rc w g (n * m) h) (hcap : n ≤ cap) (e : ∀ j, j < n * m → h j = k j) : valM m w (.slice (some ⟨g, 0, none⟩) n cap) n k :=
  ⟨_, cap, rfl, hcap, .inr ⟨g, rfl, H.lt, fun j hj => by rw [← e j hj]; exact H.at_ j hj⟩⟩
theorem made_rc (w : World) (zs : Array Value) (N t : Nat) : ∃ f, rc (w.alloc (.cells (madeCells zs N) t)) w.heap.size N f :=
  ⟨fun i => (madeCells zs N).getD i undef, rc.of_row (t := t) ⟨_, heap_alloc_new _ _, size_madeCells _ _, fun i hi => by
    have := size_madeCells zs N
    show _ = some ((madeCells zs N).getD i undef)
    rw [Array.getD_eq_getD_getElem?, Array.getElem?_eq_getElem (by omega)]; rfl⟩⟩
theorem below_set {B : Nat} {w W : World} (h : Below B w W) (g a : Nat) (hg : B ≤ g) (u : Value) : Below B w (W.setCell ⟨g, a, none⟩ u) := h.setCell (p := ⟨g, a, none⟩) hg u
end Go.Proofs.Ytipeelkmmjgehab
