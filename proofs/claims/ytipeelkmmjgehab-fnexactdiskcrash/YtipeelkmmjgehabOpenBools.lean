/- Truth values that came in, opened. -/
import Derived.Test.YtipeelkmmjgehabRows
import Derived.Test.YtipeelkmmjgehabDskF
import Derived.ProofKit
import Derived.OpenShut
import Derived.Deep.Slices
import Derived.Lib.SmallJoins
namespace Go.Proofs.Ytipeelkmmjgehab
open Go.ChangeShapes Go.WideShapes Go.ChangeAt Go.RowKit Go.Deep Go.Joins
theorem Try.cellsBoolO : Try.prog.cellsOf 4 = 1 := by kernel_rfl
theorem addB (b off i : Nat) : (⟨b, off, none⟩ : Addr).add i = ⟨b, off + i, none⟩ := by by_cases hz : i = 0 <;> simp [Addr.add, hz]
set_option maxRecDepth 100000 in
theorem open_bools {H : Type} {enc : TypeId × Value → H} {W : World} {a : Option Addr} {len cap fuel : Nat} {x : DataW H × List MemPlace} (h : DataW.trod enc Try.prog W 0 (fun _ => true) true fuel 35 [.slice a len cap] = some x) :
    ∃ K : Nat → Bool, len ≤ maxLen ∧ booI W W.heap.size (.slice a len cap) len K := by
  rcases open_slice1 Try.underlying35 Try.cellsBoolO h with ⟨hcs, _⟩ | ⟨y, len', cap', m, n, V, D, Pl, hcs, _, hl, hm, hmm, _, hx⟩
  · simp at hcs
    obtain ⟨rfl, rfl, rfl⟩ := hcs
    exact ⟨fun _ => false, Nat.zero_le _, none, 0, rfl, Nat.le_refl _, .inl rfl⟩
  · simp at hcs
    obtain ⟨rfl, rfl, rfl⟩ := hcs
    have hmc : m = cap := by simpa using hmm
    subst hmc
    obtain ⟨K, hK⟩ := choose_lt (α := Bool) (n := len) (p := fun i s => W.cell? (y.add i) = some (.bool s)) (fun i hi => by
      obtain ⟨h1, h2⟩ := hx i (by omega)
      obtain ⟨s, e0, _⟩ := DataW.trod_bool Try.underlying4 h2
      simp at e0
      exact ⟨s, by rw [h1, e0]⟩)
    refine ⟨K, Nat.le_trans hl hm, some y, m, rfl, hl, ?_⟩
    by_cases h0 : len = 0
    · exact .inl h0
    · obtain ⟨b, off, spot⟩ := y
      have hc0 := hK 0 (by omega)
      have hspot : spot = none := by simpa [Addr.add] using World.cell?_spot hc0
      subst hspot
      have hb := World.block_lt_of_cell? W _ hc0
      refine .inr ⟨b, off, rfl, by simpa [Addr.add] using hb, fun j hj => ?_⟩
      have h1 := hK j hj
      rw [addB] at h1
      exact h1
end Go.Proofs.Ytipeelkmmjgehab
