/- What GetNum tells, as a value; the forms of what is read. No program is named here. -/
import Derived.Test.YtdoodkabmeojmaaDoorDec
import Derived.WalkKit
namespace Go.Proofs.YtdoodkabmeojmaaDoor
open Go.RowKit

/-- A NumOut. -/
def numOut (n a c : Int) : Value := .agg #[.int .i64 n, .int .i64 a, .int .i64 c]

theorem dec_form (l : List UInt8) : ∀ k u, (∃ U m, dec k u l = (0, U, m) ∧ m ≤ k + l.length) ∨ dec k u l = (3, 0, 0) ∨ dec k u l = (4, 0, 0) := by
  induction l with
  | nil => intro k u; exact .inr (.inr rfl)
  | cons b l ih =>
    intro k u
    rw [dec]
    split
    · exact .inr (.inl rfl)
    · split
      · split
        · exact .inr (.inl rfl)
        · exact .inl ⟨_, _, rfl, by simp⟩
      · rcases ih (k + 1) (u + b.toNat % 128 * 2 ^ (7 * k)) with ⟨U, m, h, hm⟩ | h | h
        · exact .inl ⟨U, m, h, by simp; omega⟩
        · exact .inr (.inl h)
        · exact .inr (.inr h)
theorem decAt_form (s : ByteArray) (q : Nat) : (∃ U m, decAt s q = (0, U, m) ∧ m ≤ s.size - q) ∨ decAt s q = (3, 0, 0) ∨ decAt s q = (4, 0, 0) := by
  rcases dec_form (s.data.toList.drop q) 0 0 with ⟨U, m, h, hm⟩ | h | h
  · exact .inl ⟨U, m, h, by simpa using hm⟩
  · exact .inr (.inl h)
  · exact .inr (.inr h)

end Go.Proofs.YtdoodkabmeojmaaDoor
