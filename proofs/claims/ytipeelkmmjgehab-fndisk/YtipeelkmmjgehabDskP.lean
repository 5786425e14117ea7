/- The model's DiskWrite of a right disk: what it hands back. -/
import Derived.Test.YtipeelkmmjgehabDskX
import Derived.Test.YtipeelkmmjgehabDskO
namespace Go.Proofs.Ytipeelkmmjgehab
open Go Go.RowKit
/-- What a write to a right disk hands back: a code above 0 and no disk, or the disk. -/
def wrOut (w' : World) (lo : Nat) (sv cv : Value) (c : Int) (nS : Nat) (S : Nat → ByteArray) (nC : Nat) (A : Nat → Int) (X : Nat → ByteArray) (a : Int) (t : ByteArray) : Prop :=
  (c ≠ 0 ∧ sv = .slice none 0 0 ∧ cv = .slice none 0 0) ∨
  (c = 0 ∧ (0 ≤ a ∧ a ≤ (nS : Int) - (manyW t : Int)) ∧ nC + manyW t ≤ 400 ∧ w'.ownsRow lo 9 1 sv nS (sL S nS) ∧ w'.ownsRow lo 70 2 cv (nC + manyW t) (wL (wrA A nC a) (wrX X nC t) (nC + manyW t)) ∧ apartV sv cv)
theorem spec_diskWriteO (v : Value) (nS : Nat) (S : Nat → ByteArray) (nC : Nat) (A : Nat → Int) (X : Nat → ByteArray) (a : Int) (t : ByteArray) (w : World) (hok : dskOk nS S nC A X) (hts : t.size ≤ 20000) (h : dskI w w.heap.size v nS S nC A X) :
    Calls Try.prog 11 #[v, .int .i64 a, .string t] w fun e w' => ∃ sv cv c, e = .returned (.agg #[sv, cv, .string ⟨#[]⟩, .int .i64 c]) ∧ wrOut w' w.heap.size sv cv c nS S nC A X a t ∧ Below w.heap.size w w' := by
  have hn4 := hok.2.1
  by_cases hr : 0 ≤ a ∧ a ≤ (nS : Int) - (manyW t : Int)
  · by_cases hf : (nC : Int) + (manyW t : Int) ≤ 400
    · exact (spec_diskWrite_ok v nS S nC A X a t w hts hok h (fun sv cv c u w1 => c = 0 ∧ w1.ownsRow u.heap.size 9 1 sv nS (sL S nS) ∧ w1.ownsRow u.heap.size 70 2 cv (nC + manyW t) (wL (wrA A nC a) (wrX X nC t) (nC + manyW t)) ∧ apartV sv cv)
        (fun u2 x2 h2_ => (spec_write_good x2 nS S nC A X a t u2 hok hts hr.1 hr.2 (by omega) h2_).mono fun _ _ ⟨sv, cv, k1, k2, k3, k4, k5⟩ => ⟨sv, cv, 0, k1, by
          obtain ⟨q1, q2, e1⟩ := own_slice k2
          obtain ⟨q3, q4, e2⟩ := own_slice k3
          exact ⟨_, _, _, _, _, _, e1, e2⟩, ⟨rfl, k2, k3, k4⟩, k5⟩)).mono fun _ w' ⟨sv, cv, c, u2, w1, k1, ⟨k2, k3, k4, k5⟩, k6, k7, _, k9⟩ => by
          subst k2
          have m1 := own_base (own_of_block k3 (w' := w') (fun b hb => k7 b (by have := (k3.lt b hb).1; omega))) (show w.heap.size ≤ u2.heap.size by omega)
          have m2 := own_base (own_of_block k4 (w' := w') (fun b hb => k7 b (by have := (k4.lt b hb).1; omega))) (show w.heap.size ≤ u2.heap.size by omega)
          exact ⟨sv, cv, 0, k1, .inr ⟨rfl, hr, by omega, m1, m2, k5⟩, k9⟩
    · exact (spec_diskWrite_ok v nS S nC A X a t w hts hok h (fun sv cv c _ _ => sv = .slice none 0 0 ∧ cv = .slice none 0 0 ∧ c = 9)
        (fun u2 x2 h2_ => (spec_write_full x2 nS S nC A X a t u2 hok hts hr.1 ⟨hr.2, by omega⟩ h2_).mono fun _ _ ⟨k1, k2⟩ => ⟨_, _, 9, k1, ⟨_, _, _, _, _, _, rfl, rfl⟩, ⟨rfl, rfl, rfl⟩, k2⟩)).mono fun _ w' ⟨sv, cv, c, u2, w1, k1, ⟨k2, k3, k4⟩, _, _, _, k9⟩ => by
          subst k2 k3 k4
          exact ⟨_, _, 9, k1, .inl ⟨by omega, rfl, rfl⟩, k9⟩
  · exact (spec_diskWrite_ok v nS S nC A X a t w hts hok h (fun sv cv c _ _ => sv = .slice none 0 0 ∧ cv = .slice none 0 0 ∧ c = 8)
      (fun u2 x2 h2_ => (spec_write_range x2 nS S nC A X a t u2 hok hts (by omega) h2_).mono fun _ _ ⟨k1, k2⟩ => ⟨_, _, 8, k1, ⟨_, _, _, _, _, _, rfl, rfl⟩, ⟨rfl, rfl, rfl⟩, k2⟩)).mono fun _ w' ⟨sv, cv, c, u2, w1, k1, ⟨k2, k3, k4⟩, _, _, _, k9⟩ => by
        subst k2 k3 k4
        exact ⟨_, _, 8, k1, .inl ⟨by omega, rfl, rfl⟩, k9⟩
end Go.Proofs.Ytipeelkmmjgehab
