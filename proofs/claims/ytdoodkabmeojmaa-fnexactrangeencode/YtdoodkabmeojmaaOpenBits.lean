/- A list of bits that came in, opened. -/
import Derived.Test.YtdoodkabmeojmaaRows
import Derived.Test.YtdoodkabmeojmaaRangeE
import Derived.ProofKit
import Derived.OpenShut
import Derived.Deep.Slices
namespace Go.Proofs.Ytdoodkabmeojmaa
open Go.ChangeShapes Go.WideShapes Go.ChangeAt Go.RowKit Go.Deep
theorem Try.cellsLawBit : Try.prog.cellsOf 77 = 2 := by kernel_rfl
theorem Try.cellsI64 : Try.prog.cellsOf 2 = 1 := by kernel_rfl
theorem Try.cellsBool : Try.prog.cellsOf 4 = 1 := by kernel_rfl
theorem add2 (b off i : Nat) : (⟨b, off, none⟩ : Addr).add i = ⟨b, off + i, none⟩ := by by_cases hz : i = 0 <;> simp [Addr.add, hz]
set_option maxRecDepth 100000 in
theorem open_bits {H : Type} {enc : TypeId × Value → H} {W : World} {a : Option Addr} {len cap fuel : Nat} {x : DataW H × List MemPlace} (h : DataW.trod enc Try.prog W 0 (fun _ => true) true fuel 42 [.slice a len cap] = some x) :
    ∃ l : List (Int × Bool), l.length = len ∧ len ≤ maxLen ∧ BitsI W W.heap.size (.slice a len cap) l := by
  rcases open_slice Try.underlying42 h with ⟨hcs, _⟩ | ⟨y, len', cap', m, n, D, Pl, hcs, _, hl, hm, hmm, _, hx⟩
  · simp at hcs
    obtain ⟨rfl, rfl, rfl⟩ := hcs
    exact ⟨[], rfl, Nat.zero_le _, none, 0, rfl, Nat.le_refl _, .inl rfl⟩
  · simp at hcs
    obtain ⟨rfl, rfl, rfl⟩ := hcs
    have hmc : m = cap := by simpa using hmm
    subst hmc
    rw [Try.cellsLawBit] at hx
    obtain ⟨V, hV⟩ := choose_lt (α := Int × Bool) (n := len) (p := fun i v => W.cell? (y.add (i * 2)) = some (.int .i64 v.1) ∧ W.cell? ((y.add (i * 2)).add 1) = some (.bool v.2)) (fun i hi => by
      obtain ⟨cs', h1, h2⟩ := hx i (by omega)
      obtain ⟨y0, y1, n2, _, hlen, t0, t1⟩ := trod_struct2 Try.underlying77 h2
      rw [Try.cellsLawBit] at hlen
      match cs', hlen with
      | [c0, c1], _ =>
        obtain ⟨z, e0, _, _⟩ := DataW.trod_int Try.underlying2 t0
        obtain ⟨b, e1, _⟩ := DataW.trod_bool Try.underlying4 t1
        rw [show Try.prog.cellsOf _ = 1 from Try.cellsI64] at e0
        rw [show Try.prog.cellsOf _ = 1 from Try.cellsBool] at e1
        simp at e0 e1
        subst e0 e1
        have hc := (World.cells?_some h1).2.2
        refine ⟨(z, b), ?_, ?_⟩
        · have := hc 0 (by omega)
          simpa [Addr.add] using this
        · have := hc 1 (by omega)
          simpa using this)
    have hlist : ((List.range len).map V).length = len := by simp
    refine ⟨(List.range len).map V, hlist, Nat.le_trans hl hm, some y, m, by rw [hlist], by rw [hlist]; exact hl, ?_⟩
    by_cases h0 : len = 0
    · exact .inl (by rw [h0]; rfl)
    · obtain ⟨b, off, spot⟩ := y
      have hc0 := (hV 0 (by omega)).1
      have hspot : spot = none := by simpa [Addr.add] using World.cell?_spot hc0
      subst hspot
      have hb := World.block_lt_of_cell? W _ hc0
      refine .inr ⟨b, off, rfl, by simpa [Addr.add] using hb, fun j x hx => ?_⟩
      have hj : j < len := by have := (List.getElem?_eq_some_iff.1 hx).1; omega
      rw [List.getElem?_map, List.getElem?_range hj] at hx
      obtain rfl := Option.some.inj hx
      have h1 := hV j hj
      rw [add2, add2, Nat.mul_comm j 2] at h1
      exact h1
end Go.Proofs.Ytdoodkabmeojmaa
