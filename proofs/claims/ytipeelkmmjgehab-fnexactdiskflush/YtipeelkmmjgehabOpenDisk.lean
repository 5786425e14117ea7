/- A disk that came in, opened. -/
import Derived.Test.YtipeelkmmjgehabRows
import Derived.Test.YtipeelkmmjgehabLwDisk
import Derived.ProofKit
import Derived.OpenShut
import Derived.Deep.Slices
import Derived.Lib.SmallJoins
namespace Go.Proofs.Ytipeelkmmjgehab
open Go.ChangeShapes Go.WideShapes Go.ChangeAt Go.RowKit Go.Deep Go.Joins
theorem Try.cellsLawWr : Try.prog.cellsOf 97 = 2 := by kernel_rfl
theorem Try.cellsLawDisk : Try.prog.cellsOf 41 = 2 := by kernel_rfl
theorem Try.cellsI64d : Try.prog.cellsOf 2 = 1 := by kernel_rfl
theorem Try.cellsStrd : Try.prog.cellsOf 9 = 1 := by kernel_rfl
theorem addD (b off i : Nat) : (⟨b, off, none⟩ : Addr).add i = ⟨b, off + i, none⟩ := by by_cases hz : i = 0 <;> simp [Addr.add, hz]
set_option maxRecDepth 100000 in
theorem open_strsD {H : Type} {enc : TypeId × Value → H} {W : World} {sv : Value} {fuel : Nat} {x : DataW H × List MemPlace} (h : DataW.trod enc Try.prog W 0 (fun _ => true) true fuel 23 [sv] = some x) :
    ∃ (nS : Nat) (S : Nat → ByteArray), strI W W.heap.size sv nS S ∧ nS ≤ maxLen ∧ ∀ j, j < nS → (S j).size ≤ maxLen := by
  rcases open_slice1 Try.underlying23 Try.cellsStrd h with ⟨hcs, _⟩ | ⟨y, len, cap, m, n, V, D, Pl, hcs, _, hl, hm, hmm, _, hx⟩
  · simp at hcs
    subst hcs
    exact ⟨0, fun _ => ⟨#[]⟩, ⟨none, 0, rfl, Nat.le_refl _, .inl rfl⟩, Nat.zero_le _, fun j hj => by omega⟩
  · simp at hcs
    subst hcs
    have hmc : m = cap := by simpa using hmm
    subst hmc
    haveI : Inhabited ByteArray := ⟨⟨#[]⟩⟩
    obtain ⟨S, hS⟩ := choose_lt (α := ByteArray) (n := len) (p := fun i s => W.cell? (y.add i) = some (.string s) ∧ s.size ≤ maxLen) (fun i hi => by
      obtain ⟨h1, h2⟩ := hx i (by omega)
      obtain ⟨s, e0, _, hs⟩ := DataW.trod_string Try.underlying9 h2
      simp at e0
      exact ⟨s, by rw [h1, e0], hs⟩)
    refine ⟨len, S, ⟨some y, m, rfl, hl, ?_⟩, Nat.le_trans hl hm, fun j hj => (hS j hj).2⟩
    by_cases h0 : len = 0
    · exact .inl h0
    · obtain ⟨b, off, spot⟩ := y
      have hc0 := (hS 0 (by omega)).1
      have hspot : spot = none := by simpa [Addr.add] using World.cell?_spot hc0
      subst hspot
      have hb := World.block_lt_of_cell? W _ hc0
      refine .inr ⟨b, off, rfl, by simpa [Addr.add] using hb, fun j hj => ?_⟩
      have h1 := (hS j hj).1
      rw [addD] at h1
      exact h1
set_option maxRecDepth 100000 in
theorem open_wrs {H : Type} {enc : TypeId × Value → H} {W : World} {cv : Value} {fuel : Nat} {x : DataW H × List MemPlace} (h : DataW.trod enc Try.prog W 0 (fun _ => true) true fuel 39 [cv] = some x) :
    ∃ (nC : Nat) (A : Nat → Int) (X : Nat → ByteArray), sliI 2 W W.heap.size cv nC (cWr A X) ∧ nC ≤ maxLen ∧ ∀ j, j < nC → (X j).size ≤ maxLen := by
  rcases open_slice Try.underlying39 h with ⟨hcs, _⟩ | ⟨y, len, cap, m, n, D, Pl, hcs, _, hl, hm, hmm, _, hx⟩
  · simp at hcs
    subst hcs
    exact ⟨0, fun _ => 0, fun _ => ⟨#[]⟩, ⟨none, 0, rfl, Nat.le_refl _, .inl rfl⟩, Nat.zero_le _, fun j hj => by omega⟩
  · simp at hcs
    subst hcs
    have hmc : m = cap := by simpa using hmm
    subst hmc
    rw [Try.cellsLawWr] at hx
    obtain ⟨V, hV⟩ := choose_lt (α := Int × ByteArray) (n := len) (p := fun i v => W.cell? (y.add (i * 2)) = some (.int .i64 v.1) ∧ W.cell? ((y.add (i * 2)).add 1) = some (.string v.2) ∧ v.2.size ≤ maxLen) (fun i hi => by
      obtain ⟨cs', h1, h2⟩ := hx i (by omega)
      obtain ⟨y0, y1, n2, _, hlen, t0, t1⟩ := trod_struct2 Try.underlying97 h2
      rw [Try.cellsLawWr] at hlen
      match cs', hlen with
      | [c0, c1], _ =>
        obtain ⟨z0, e0, _, _⟩ := DataW.trod_int Try.underlying2 t0
        obtain ⟨z1, e1, _, hz1⟩ := DataW.trod_string Try.underlying9 t1
        rw [show Try.prog.cellsOf _ = 1 from Try.cellsI64d] at e0
        rw [show Try.prog.cellsOf _ = 1 from Try.cellsStrd] at e1
        simp at e0 e1
        subst e0 e1
        have hc := (World.cells?_some h1).2.2
        refine ⟨⟨z0, z1⟩, ?_, ?_, hz1⟩
        · have := hc 0 (by omega)
          simpa [Addr.add] using this
        · have := hc 1 (by omega)
          simpa using this)
    refine ⟨len, fun j => (V j).1, fun j => (V j).2, ⟨some y, m, rfl, hl, ?_⟩, Nat.le_trans hl hm, fun j hj => (hV j hj).2.2⟩
    by_cases h0 : len = 0
    · exact .inl h0
    · obtain ⟨b, off, spot⟩ := y
      have hc0 := (hV 0 (by omega)).1
      have hspot : spot = none := by simpa [Addr.add] using World.cell?_spot hc0
      subst hspot
      have hb := World.block_lt_of_cell? W _ hc0
      refine .inr ⟨b, off, rfl, by simpa [Addr.add] using hb, fun j hj i hi => ?_⟩
      obtain ⟨h1, h2, _⟩ := hV j hj
      rw [addD, Nat.mul_comm j 2] at h1
      rw [addD, addD, Nat.mul_comm j 2] at h2
      match i, hi with
      | 0, _ => exact h1
      | 1, _ => exact h2
set_option maxRecDepth 100000 in
theorem open_disk {H : Type} {enc : TypeId × Value → H} {W : World} {b0 : Nat} {v : Value} {d : DataW H} {p : List MemPlace} (hv : Value.okWide Try.prog W .any b0 41 v) (h : DataW.Trod enc Try.prog W 0 (fun _ => true) true 41 v d p) :
    ∃ (nS : Nat) (S : Nat → ByteArray) (nC : Nat) (A : Nat → Int) (X : Nat → ByteArray), dskI W W.heap.size v nS S nC A X ∧ nS ≤ maxLen ∧ nC ≤ maxLen ∧ (∀ j, j < nS → (S j).size ≤ maxLen) ∧ ∀ j, j < nC → (X j).size ≤ maxLen := by
  obtain ⟨c0, c1, y0, y1, n, rfl, _, _, h0, h1⟩ := open_agg2 Try.underlying41 (by kernel_rfl) Try.cellsLawDisk hv h
  obtain ⟨nS, S, hs, h2, h3⟩ := open_strsD h0
  obtain ⟨nC, A, X, hc, h4, h5⟩ := open_wrs h1
  exact ⟨nS, S, nC, A, X, ⟨_, _, rfl, hs, hc⟩, h2, h4, h3, h5⟩
end Go.Proofs.Ytipeelkmmjgehab
