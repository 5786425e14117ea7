/- Disks as values: small laws. -/
import Derived.Test.YtipeelkmmjgehabDskF
namespace Go.Proofs.Ytipeelkmmjgehab
open Go Go.RowKit
theorem dskV.set2 {w : World} {s c : Value} {lo hi nS : Nat} {fS : Nat → Value} {nC : Nat} {fC : Nat → Value} (h : dskV w (.agg #[s, c]) lo hi nS fS nC fC) (b : Nat) (hb : b < lo) (u v : Value) : dskV ((w.setCell ⟨b, 0, none⟩ u).setCell ⟨b, 1, none⟩ v) (.agg #[s, c]) lo hi nS fS nC fC := by
  obtain ⟨sv, cv, e, h1, h2, h3, h4, h5⟩ := h
  cases e
  exact ⟨s, c, rfl, (h1.set1 _ _ _ (fun k hk => by have := h3 k hk; omega)).set1 _ _ _ (fun k hk => by have := h3 k hk; omega), (h2.set1 _ _ _ (fun k hk => by have := h4 k hk; omega)).set1 _ _ _ (fun k hk => by have := h4 k hk; omega), h3, h4, h5⟩
theorem dskV.shape {w : World} {o : Value} {lo hi nS : Nat} {fS : Nat → Value} {nC : Nat} {fC : Nat → Value} (h : dskV w o lo hi nS fS nC fC) : ∃ a b c d, o = .agg #[.slice a nS b, .slice c nC d] := by
  obtain ⟨sv, cv, e, h1, h2, _⟩ := h
  obtain ⟨a, b, e1⟩ := valM_slice h1
  obtain ⟨c, d, e2⟩ := valM_slice h2
  exact ⟨a, b, c, d, by rw [e, e1, e2]⟩
theorem dskV.span {w : World} {o : Value} {lo hi lo' hi' nS : Nat} {fS : Nat → Value} {nC : Nat} {fC : Nat → Value} (h : dskV w o lo hi nS fS nC fC) (hl : lo' ≤ lo) (hh : hi ≤ hi') : dskV w o lo' hi' nS fS nC fC := by
  obtain ⟨sv, cv, e, h1, h2, h3, h4, h5⟩ := h
  exact ⟨sv, cv, e, h1, h2, fun k hk => by have := h3 k hk; omega, fun k hk => by have := h4 k hk; omega, h5⟩
theorem booI_nil (w : World) (B : Nat) (K : Nat → Bool) : booI w B (.slice none 0 0) 0 K := ⟨none, 0, rfl, Nat.le_refl _, .inl rfl⟩
end Go.Proofs.Ytipeelkmmjgehab
