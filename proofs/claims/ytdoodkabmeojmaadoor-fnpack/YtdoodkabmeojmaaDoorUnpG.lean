/- More of the tokens that come out of a code. No program is named here. -/
import Derived.Test.YtdoodkabmeojmaaDoorUnpF
namespace Go.Proofs.YtdoodkabmeojmaaDoor
theorem dt_step (tb : Nat → Nat) (size : Nat) : ∀ (pre : List Tok) (k : Nat) (st : RC × Nat) (b c : List UInt8) (x : Tok) (rest : List Tok), pre ++ x :: rest = dtoks tb size k st b.length → growL pre b = some c → c.length < size ∧ ∃ st', x = (dtok tb st').1
  | [], k, st, b, c, x, rest, h, hg => by
    have e : b = c := Option.some.inj hg
    cases k with
    | zero => cases h
    | succ k =>
      unfold dtoks at h
      split at h
      · rename_i hlt
        rw [← e]
        exact ⟨hlt, st, (List.cons.inj h).1⟩
      · cases h
  | y :: pre, k, st, b, c, x, rest, h, hg => by
    cases k with
    | zero => cases h
    | succ k =>
      unfold dtoks at h
      split at h
      · obtain ⟨h1, h2⟩ := List.cons.inj h
        have hg' : (growT y b).bind (growL pre) = some c := hg
        cases hy : growT y b with
        | none => rw [hy] at hg'; cases hg'
        | some d =>
          rw [hy] at hg'
          rw [h1] at hy
          have hl := growT_len tb st b d hy
          rw [← hl] at h2
          exact dt_step tb size pre k _ d c x rest h2 hg'
      · cases h
theorem growL_snoc (l : List Tok) (x : Tok) (b : List UInt8) : growL (l ++ [x]) b = (growL l b).bind (growT x) := by
  rw [growL_app]
  cases growL l b with
  | none => rfl
  | some c =>
    show (growT x c).bind some = growT x c
    cases growT x c <;> rfl
theorem growL_stop (l k : List Tok) (b : List UInt8) (h : l <+: k) (hn : growL l b = none) : growL k b = none := by
  obtain ⟨r, rfl⟩ := h
  rw [growL_app, hn]; rfl
end Go.Proofs.YtdoodkabmeojmaaDoor
