/- A list of tokens, and a token, that came in, opened. -/
import Derived.Test.YtldfahpleaigeaaRows
import Derived.Test.YtldfahpleaigeaaTokC
import Derived.ProofKit
import Derived.OpenShut
import Derived.Deep.Slices
import Derived.Lib.SmallJoins
namespace Go.Proofs.Ytldfahpleaigeaa
open Go.ChangeShapes Go.WideShapes Go.ChangeAt Go.RowKit Go.Deep Go.Joins
theorem Try.cellsLawTok : Try.prog.cellsOf 32 = 3 := by kernel_rfl
theorem Try.cellsI64t : Try.prog.cellsOf 2 = 1 := by kernel_rfl
theorem add3 (b off i : Nat) : (⟨b, off, none⟩ : Addr).add i = ⟨b, off + i, none⟩ := by by_cases hz : i = 0 <;> simp [Addr.add, hz]
theorem open_toks {H : Type} {enc : TypeId × Value → H} {W : World} {a : Option Addr} {len cap fuel : Nat} {x : DataW H × List MemPlace} (h : DataW.trod enc Try.prog W 0 (fun _ => true) true fuel 38 [.slice a len cap] = some x) :
    ∃ l : List Tok, l.length = len ∧ len ≤ maxLen ∧ TokI W W.heap.size (.slice a len cap) l := by
  rcases open_slice Try.underlying38 h with ⟨hcs, _⟩ | ⟨y, len', cap', m, n, D, Pl, hcs, _, hl, hm, hmm, _, hx⟩
  · simp at hcs
    obtain ⟨rfl, rfl, rfl⟩ := hcs
    exact ⟨[], rfl, Nat.zero_le _, none, 0, rfl, Nat.le_refl _, .inl rfl⟩
  · simp at hcs
    obtain ⟨rfl, rfl, rfl⟩ := hcs
    have hmc : m = cap := by simpa using hmm
    subst hmc
    rw [Try.cellsLawTok] at hx
    haveI : Inhabited Tok := ⟨⟨0, 0, 0⟩⟩
    obtain ⟨V, hV⟩ := choose_lt (α := Tok) (n := len) (p := fun i v => W.cell? (y.add (i * 3)) = some (.int .i64 v.b) ∧ W.cell? ((y.add (i * 3)).add 1) = some (.int .i64 v.m) ∧ W.cell? ((y.add (i * 3)).add 2) = some (.int .i64 v.f)) (fun i hi => by
      obtain ⟨cs', h1, h2⟩ := hx i (by omega)
      obtain ⟨y0, y1, y2, n2, _, hlen, t0, t1, t2⟩ := trod_struct3 Try.underlying32 h2
      rw [Try.cellsLawTok] at hlen
      match cs', hlen with
      | [c0, c1, c2], _ =>
        obtain ⟨z0, e0, _, _⟩ := DataW.trod_int Try.underlying2 t0
        obtain ⟨z1, e1, _, _⟩ := DataW.trod_int Try.underlying2 t1
        obtain ⟨z2, e2, _, _⟩ := DataW.trod_int Try.underlying2 t2
        rw [show Try.prog.cellsOf _ = 1 from Try.cellsI64t] at e0 e1 e2
        simp at e0 e1 e2
        subst e0 e1 e2
        have hc := (World.cells?_some h1).2.2
        refine ⟨⟨z0, z1, z2⟩, ?_, ?_, ?_⟩
        · have := hc 0 (by omega)
          simpa [Addr.add] using this
        · have := hc 1 (by omega)
          simpa using this
        · have := hc 2 (by omega)
          simpa using this)
    have hlist : ((List.range len).map V).length = len := by simp
    refine ⟨(List.range len).map V, hlist, Nat.le_trans hl hm, some y, m, by rw [hlist], by rw [hlist]; exact hl, ?_⟩
    by_cases h0 : len = 0
    · exact .inl (by rw [h0]; rfl)
    · obtain ⟨b, off, spot⟩ := y
      have hc0 := (hV 0 (by omega)).1
      have hspot : spot = none := by simpa [Addr.add] using World.cell?_spot hc0
      subst hspot
      have hb := World.block_lt_of_cell? W _ hc0
      refine .inr ⟨b, off, rfl, by simpa [Addr.add] using hb, fun j x hx => ?_⟩
      have hj : j < len := by have := (List.getElem?_eq_some_iff.1 hx).1; omega
      rw [List.getElem?_map, List.getElem?_range hj] at hx
      obtain rfl := Option.some.inj hx
      have h1 := hV j hj
      rw [add3, add3, add3, Nat.mul_comm j 3] at h1
      exact h1
theorem open_tok {H : Type} {enc : TypeId × Value → H} {W : World} {b0 : Nat} {v : Value} {d : DataW H} {p : List MemPlace} (hv : Value.okWide Try.prog W .any b0 32 v) (h : DataW.Trod enc Try.prog W 0 (fun _ => true) true 32 v d p) :
    ∃ b m f : Int, v = .agg #[.int .i64 b, .int .i64 m, .int .i64 f] := by
  obtain ⟨c0, c1, c2, y0, y1, y2, n, rfl, _, _, h0, h1, h2⟩ := open_agg3 Try.underlying32 (by kernel_rfl) Try.cellsLawTok hv h
  obtain ⟨z0, e0, _, _⟩ := DataW.trod_int Try.underlying2 h0
  obtain ⟨z1, e1, _, _⟩ := DataW.trod_int Try.underlying2 h1
  obtain ⟨z2, e2, _, _⟩ := DataW.trod_int Try.underlying2 h2
  simp at e0 e1 e2
  subst e0 e1 e2
  exact ⟨z0, z1, z2, rfl⟩
end Go.Proofs.Ytldfahpleaigeaa
