/- What a source of draws is in memory, and what stays of it. No program is named here. -/
import Derived.Test.YtconcnndghmdfaaDoorOwn
import Derived.WalkKit
namespace Go.Proofs.YtconcnndghmdfaaDoor
open Go.RowKit

/-- What the walk is told of bytes that came in: nil, or a row of 'cap' cells, the numbers 'zs'. -/
def IsRow (k : IntKind) (w : World) (a : Option Addr) (len cap : Nat) (zs : List Int) : Prop :=
  (a = none ∧ len = 0 ∧ cap = 0 ∧ zs = []) ∨
  ∃ x, a = some x ∧ len ≤ cap ∧ cap ≤ maxLen ∧ zs.length = cap ∧ (∀ i, i < zs.length → w.cell? (x.add i) = some (.int k (zs.getD i 0))) ∧ ∀ n ∈ zs, (Lit.int k n).wf = true

/-- Bytes that lie below block B: each cell holds a number from 0 to 255. -/
def BytesIn (w : World) (B : Nat) (a : Option Addr) (len : Nat) : Prop :=
  len = 0 ∨ ∃ b off, a = some ⟨b, off, none⟩ ∧ b < B ∧ ∀ i, i < len → ∃ z : Int, 0 ≤ z ∧ z ≤ 255 ∧ w.cell? ⟨b, off + i, none⟩ = some (.int .u8 z)

theorem wf_u8 {n : Int} (h : (Lit.int .u8 n).wf = true) : 0 ≤ n ∧ n ≤ 255 := by
  simp [Lit.wf] at h; exact ⟨Int.le_trans (by decide) h.1, h.2⟩

theorem bytesIn_of_row {w : World} {a : Option Addr} {len cap : Nat} {zs : List Int} (h : IsRow .u8 w a len cap zs) : BytesIn w w.heap.size a len := by
  rcases h with ⟨_, hl, _, _⟩ | ⟨x, rfl, hl, _, hz, hc, hw⟩
  · exact .inl hl
  · by_cases h0 : len = 0
    · exact .inl h0
    · obtain ⟨b, off, spot⟩ := x
      have hc0 := hc 0 (by omega)
      have hspot : spot = none := by simpa [Addr.add] using World.cell?_spot hc0
      subst hspot
      have hb := World.block_lt_of_cell? w _ hc0
      refine .inr ⟨b, off, rfl, by simpa [Addr.add] using hb, fun i hi => ⟨zs.getD i 0, ?_, ?_, ?_⟩⟩
      · have := hw (zs.getD i 0) (by rw [List.getD_eq_getElem?_getD, List.getElem?_eq_getElem (by omega)]; simp)
        exact (wf_u8 this).1
      · have := hw (zs.getD i 0) (by rw [List.getD_eq_getElem?_getD, List.getElem?_eq_getElem (by omega)]; simp)
        exact (wf_u8 this).2
      · have := hc i (by omega)
        have e : (⟨b, off, none⟩ : Addr).add i = ⟨b, off + i, none⟩ := by by_cases hz : i = 0 <;> simp [Addr.add, hz]
        rw [e] at this; exact this

theorem BytesIn.below {w w1 : World} {B n : Nat} {a : Option Addr} {len : Nat} (h : BytesIn w B a len) (hb : Below n w w1) (hn : B ≤ n) : BytesIn w1 B a len := by
  rcases h with h | ⟨b, off, rfl, hbB, h⟩
  · exact .inl h
  · refine .inr ⟨b, off, rfl, hbB, fun i hi => ?_⟩
    obtain ⟨z, h0, h1, hc⟩ := h i hi
    exact ⟨z, h0, h1, by rw [← hc]; exact hb.cell (p := ⟨b, off + i, none⟩) (by exact Nat.lt_of_lt_of_le hbB hn)⟩

/-- A source of draws: its struct lies in block g (from B on), its bytes below B. -/
def Src (T B : Nat) (w : World) (g : Nat) (a : Option Addr) (len cap : Nat) : Prop :=
  B ≤ g ∧ len ≤ 1048576 ∧ BytesIn w B a len ∧ ∃ (p : Nat) (mix sz : Int), p ≤ len ∧ 0 ≤ mix ∧ mix ≤ 18446744073709551615 ∧ (0 ≤ sz ∧ sz ≤ 12) ∧
    w.heap[g]? = some (.cells #[.slice a len cap, .int .i64 p, .int .u64 mix, .int .i64 sz] T (0, 0))

theorem grownBy_trans {w w1 w2 : World} {r : Option Nat} (h1 : w.grownBy w1 r) (h2 : w1.grownBy w2 r) : w.grownBy w2 r :=
  ⟨h2.os.trans h1.os, h2.tape.trans h1.tape, h2.output.trans h1.output, Nat.le_trans h1.size h2.size, fun k hk hr => (h2.block k (Nat.lt_of_lt_of_le hk h1.size) hr).trans (h1.block k hk hr)⟩
theorem grownBy_drew {w w1 : World} {r : Option Nat} (h1 : w.grownBy w1 r) : w.grownBy w1.drew r := ⟨h1.os, h1.tape, h1.output, h1.size, h1.block⟩
theorem grownBy_set {w w1 : World} {g i : Nat} (h1 : w.grownBy w1 (some g)) (v : Value) : w.grownBy (w1.setCell ⟨g, i, none⟩ v) (some g) :=
  ⟨h1.os, h1.tape, h1.output, by have := h1.size; simpa [World.setCell] using this, fun k hk hr => by
    rw [Below.heap_setCell _ _ _ _ (by intro e; exact hr (by simp [e]))]; exact h1.block k hk hr⟩
theorem grownBy_set_new {w w1 : World} {g i : Nat} (h1 : w.grownBy w1 none) (hg : w.heap.size ≤ g) (v : Value) : w.grownBy (w1.setCell ⟨g, i, none⟩ v) none :=
  ⟨h1.os, h1.tape, h1.output, by have := h1.size; simpa [World.setCell] using this, fun k hk hr => by
    rw [Below.heap_setCell _ _ _ _ (by show k ≠ g; omega)]; exact h1.block k hk hr⟩
theorem grownBy_new {w w1 w2 : World} {g : Nat} (h1 : w.grownBy w1 none) (h2 : w1.grownBy w2 (some g)) (hg : w.heap.size ≤ g) : w.grownBy w2 none :=
  ⟨h2.os.trans h1.os, h2.tape.trans h1.tape, h2.output.trans h1.output, Nat.le_trans h1.size h2.size, fun k hk _ => (h2.block k (Nat.lt_of_lt_of_le hk h1.size) (by simp; omega)).trans (h1.block k hk (by simp))⟩
theorem grownBy_none {w w1 w2 : World} {r : Option Nat} (h1 : w.grownBy w1 r) (h2 : w1.grownBy w2 none) : w.grownBy w2 r :=
  ⟨h2.os.trans h1.os, h2.tape.trans h1.tape, h2.output.trans h1.output, Nat.le_trans h1.size h2.size, fun k hk hr => (h2.block k (Nat.lt_of_lt_of_le hk h1.size) (by simp)).trans (h1.block k hk hr)⟩
theorem below_grownBy {w w1 : World} (h : Below w.heap.size w w1) : w.grownBy w1 none := ⟨h.os, h.tape, h.output, h.size, fun k hk _ => h.block k hk⟩
theorem grownBy_toBelow {w w1 : World} (h : w.grownBy w1 none) : Below w.heap.size w w1 := ⟨h.os, h.tape, h.output, h.size, fun k hk => h.block k hk (by simp)⟩
theorem grownBy_alloc {w w1 : World} {r : Option Nat} (h1 : w.grownBy w1 r) (o : Obj) : w.grownBy (w1.alloc o) r :=
  ⟨h1.os, h1.tape, h1.output, by have := h1.size; simp; omega, fun k hk hr => by
    rw [Below.heap_alloc _ _ _ (by have := h1.size; omega)]; exact h1.block k hk hr⟩
theorem grownBy_below {w w1 : World} {g B : Nat} (h1 : w.grownBy w1 (some g)) (hB : B ≤ g) (hw : B ≤ w.heap.size) : Below B w w1 :=
  (Below.refl B w).grown h1 hw (fun k hk => by cases hk; exact hB)

theorem Src.lt {T B : Nat} {w : World} {g : Nat} {a : Option Addr} {len cap : Nat} (h : Src T B w g a len cap) : g < w.heap.size := by
  obtain ⟨_, _, _, p, mix, sz, _, _, _, _, hh⟩ := h
  exact (Array.getElem?_eq_some_iff.1 hh).1
/-- What turns no block but one that is not the source's leaves the source. -/
theorem Src.kept {T B : Nat} {w w1 : World} {g : Nat} {a : Option Addr} {len cap : Nat} {r : Option Nat} (h : Src T B w g a len cap) (hg : w.grownBy w1 r) (hr : ∀ k, r = some k → B ≤ k ∧ k ≠ g) (hB : B ≤ w.heap.size) : Src T B w1 g a len cap := by
  have hlt := h.lt
  obtain ⟨h1, h2, h3, p, mix, sz, hp, hm0, hm1, hs12, hh⟩ := h
  have hb : Below B w w1 := (Below.refl B w).grown hg hB (fun k hk => (hr k hk).1)
  exact ⟨h1, h2, h3.below hb (Nat.le_refl _), p, mix, sz, hp, hm0, hm1, hs12, by rw [hg.block g hlt (fun e => (hr g e.symm).2 rfl)]; exact hh⟩

/-- The four cells of the source, and that none is frozen. -/
theorem four_cells {w : World} {g T : Nat} {x0 x1 x2 x3 : Value} (h : w.heap[g]? = some (.cells #[x0, x1, x2, x3] T (0, 0))) :
    (w.cell? ⟨g, 0, none⟩ = some x0 ∧ w.cell? ⟨g, 1, none⟩ = some x1 ∧ w.cell? ⟨g, 2, none⟩ = some x2 ∧ w.cell? ⟨g, 3, none⟩ = some x3) ∧ (∀ o, w.frozen? ⟨g, o, none⟩ = false) := by
  refine ⟨⟨?_, ?_, ?_, ?_⟩, fun o => ?_⟩
  · simp [World.cell?, h]
  · simp [World.cell?, h]
  · simp [World.cell?, h]
  · simp [World.cell?, h]
  · simp [World.frozen?, h]
theorem four_set {w : World} {g T i : Nat} {x0 x1 x2 x3 : Value} (h : w.heap[g]? = some (.cells #[x0, x1, x2, x3] T (0, 0))) (v : Value) :
    (w.setCell ⟨g, i, none⟩ v).heap[g]? = some (.cells (#[x0, x1, x2, x3].setIfInBounds i v) T (0, 0)) := heap_setCell_same w g i _ T v h
end Go.Proofs.YtconcnndghmdfaaDoor
