/- What a disk in memory looks like. -/
import Derived.Test.YtipeelkmmjgehabLwDisk
namespace Go.Proofs.Ytipeelkmmjgehab
open Go Go.RowKit
theorem dskV.shape2 {w : World} {s c : Value} {lo hi nS : Nat} {fS : Nat → Value} {nC : Nat} {fC : Nat → Value} (h : dskV w (.agg #[s, c]) lo hi nS fS nC fC) : ∃ a b d f, s = .slice a nS b ∧ c = .slice d nC f := by
  obtain ⟨sv, cv, e, h1, h2, _⟩ := h
  cases e
  obtain ⟨a, b, e1⟩ := valM_slice h1
  obtain ⟨c, d, e2⟩ := valM_slice h2
  exact ⟨a, b, c, d, e1, e2⟩
end Go.Proofs.Ytipeelkmmjgehab
