/- Bytes at the beginning of a block, told cell by cell; small laws on wraps. No program is named here. -/
import Derived.Test.YtconcnndghmdfaaDoorRow9
import Derived.Test.YtconcnndghmdfaaDoorBytes8
namespace Go.Proofs.YtconcnndghmdfaaDoor
open Go Go.RowKit
theorem w_add {a b q : Nat} (h : a + b = q) (hq : q ≤ 4611686018427387904) : IntKind.i64.wrap ((a : Int) + (b : Int)) = (q : Int) := by simp only [IntKind.wrap_i64]; omega
theorem w_mul {a b q : Nat} (h : a * b = q) (hq : q ≤ 4611686018427387904) : IntKind.i64.wrap ((a : Int) * (b : Int)) = (q : Int) := by
  have e : (a : Int) * (b : Int) = (q : Int) := by rw [← h]; simp
  rw [e]; simp only [IntKind.wrap_i64]; omega
theorem cell_far {wr : World} {o g q k : Nat} {v x : Value} (d : o ≠ g) (c : wr.cell? ⟨g, q, none⟩ = some x) : (wr.setCell ⟨o, k, none⟩ v).cell? ⟨g, q, none⟩ = some x :=
  (World.cell?_setCell_other wr ⟨o, k, none⟩ ⟨g, q, none⟩ v (by intro e; injection e with e1; exact d e1)).trans c
/-- n bytes from the beginning of block g on: f; none of them frozen. -/
def rowC (w : World) (g n : Nat) (f : Nat → UInt8) : Prop := g < w.heap.size ∧ ∀ j, j < n → w.cell? ⟨g, j, none⟩ = some (.int .u8 ((f j).toNat : Int)) ∧ w.frozen? ⟨g, j, none⟩ = false
theorem rowC.drew {w : World} {g n : Nat} {f : Nat → UInt8} (h : rowC w g n f) : rowC w.drew g n f := h
theorem rowC.of_block {w w' : World} {g n : Nat} {f : Nat → UInt8} (h : rowC w g n f) (hs : g < w'.heap.size) (hb : w'.heap[g]? = w.heap[g]?) : rowC w' g n f :=
  ⟨hs, fun j hj => by rw [World.cell?_of_block (w := w) hb, World.frozen?_of_block (w := w) hb]; exact h.2 j hj⟩
theorem rowC.below {w w' : World} {g n : Nat} {f : Nat → UInt8} (h : rowC w g n f) (hb : Below w.heap.size w w') : rowC w' g n f := h.of_block (Nat.lt_of_lt_of_le h.1 hb.size) (hb.block g h.1)
theorem rowC.alloc {w : World} {g n : Nat} {f : Nat → UInt8} (h : rowC w g n f) (o : Obj) : rowC (w.alloc o) g n f := h.below ((Below.refl _ _).alloc (Nat.le_refl _) _)
theorem rowC.far {w : World} {g n o k : Nat} {v : Value} {f : Nat → UInt8} (h : rowC w g n f) (d : g ≠ o) : rowC (w.setCell ⟨o, k, none⟩ v) g n f :=
  h.of_block (by have := h.1; simpa [World.setCell] using this) (Below.heap_setCell _ _ _ _ d)
theorem rowC.set {w : World} {g n k : Nat} {f : Nat → UInt8} {X : Nat} {Y : UInt8} (h : rowC w g n f) (hk : k < n) (hX : X = Y.toNat) : rowC (w.setCell ⟨g, k, none⟩ (.int .u8 (X : Int))) g n (fun j => if j = k then Y else f j) := by
  subst hX
  refine ⟨by have := h.1; simpa [World.setCell] using this, fun j hj => ⟨?_, ?_⟩⟩
  · show _ = some (Value.int .u8 ((if j = k then Y else f j).toNat : Int))
    by_cases e : j = k
    · subst e
      rw [World.cell?_setCell_same _ _ _ (h.2 j hj).1, if_pos rfl]
    · rw [World.cell?_setCell_other _ _ _ _ (by intro e2; injection e2 with _ e3; exact e e3.symm), if_neg e]
      exact (h.2 j hj).1
  · rw [World.frozen?_setCell]; exact (h.2 j hj).2
theorem rowC.of_text {w : World} {base g n cap : Nat} {l : List UInt8} {f : Nat → UInt8} (h : hasRow w base (.slice (some ⟨g, 0, none⟩) n cap) l) (hl : ∀ j, j < n → l[j]? = some (f j)) : rowC w g n f := by
  obtain ⟨h1, h2, _, h4⟩ := h.facts
  obtain ⟨g', cap', e, _, _, _, hc, _⟩ := id h
  injection e with e1 e2 e3
  injection e1 with e1
  injection e1 with e1
  subst e1 e2 e3
  exact ⟨h4, fun j hj => ⟨h.cell j _ (hl j hj), (hc j (by omega)).2⟩⟩
def bF (b : ByteArray) (j : Nat) : UInt8 := b.data.toList.getD j 0
theorem bF_at (b : ByteArray) (n : Nat) (hb : b.size = n) : ∀ j, j < n → b.data.toList[j]? = some (bF b j) := by
  intro j hj
  have h : j < b.data.toList.length := by have e : b.data.toList.length = b.size := rfl; omega
  rw [bF, List.getD_eq_getElem?_getD, List.getElem?_eq_getElem h]; rfl
theorem conv_rowC {P : Program} {w : World} {g e src dst cap n : Nat} {f : Nat → UInt8} {l : List UInt8} (h : rowC w g n f) (hl : ∀ j, j < n → l[j]? = some (f j)) (hn : l.length = n) (hs : P.underlying src = some (.slice e)) (he : P.underlying e = some (.int .u8)) (hd : P.underlying dst = some .string) :
    (convert src dst (.slice (some ⟨g, 0, none⟩) n cap)).run P w = .ok (.string ⟨l.toArray⟩) w := by
  have hr := run_convert_bytes_back (P := P) w src dst e ⟨g, 0, none⟩ cap l hs he hd (fun j hj => by
    have hc := (h.2 j (by omega)).1
    have ea : (⟨g, 0, none⟩ : Addr).add j = ⟨g, j, none⟩ := by by_cases hz : j = 0 <;> simp [Addr.add, hz]
    have e2 := hl j (by omega)
    rw [List.getElem?_eq_getElem hj] at e2
    rw [ea, hc, Option.some.inj e2])
  rw [hn] at hr
  exact hr
end Go.Proofs.YtconcnndghmdfaaDoor
