/- Tokens as cells. No program is named here. -/
import Derived.Test.YtdoodkabmeojmaaMatchF
import Derived.WalkKit
import Derived.Below
import Derived.OwnWalk
import Derived.Deep.AppendLies
namespace Go.Proofs.Ytdoodkabmeojmaa
open Go.RowKit
/-- A token, as a value. -/
def tokV (t : Tok) : Value := .agg #[.int .i64 t.b, .int .i64 t.m, .int .i64 t.f]
/-- How many bytes a token makes. -/
def tokSize (m : Int) : Int := if m = 0 then 1 else m
/-- The cells of tokens. -/
def tokC (l : List Tok) : List Value := l.flatMap fun x => [.int .i64 x.b, .int .i64 x.m, .int .i64 x.f]
theorem tokC_len : ∀ l, (tokC l).length = l.length * 3
  | [] => rfl
  | x :: l => by
    show (tokC l).length + 3 = (l.length + 1) * 3
    rw [tokC_len l]; omega
theorem tokC_snoc (l : List Tok) (x : Tok) : tokC (l ++ [x]) = tokC l ++ [.int .i64 x.b, .int .i64 x.m, .int .i64 x.f] := by simp [tokC]
theorem tokC_at : ∀ (l : List Tok) (j : Nat) (x : Tok), l[j]? = some x → (tokC l)[3 * j]? = some (.int .i64 x.b) ∧ (tokC l)[3 * j + 1]? = some (.int .i64 x.m) ∧ (tokC l)[3 * j + 2]? = some (.int .i64 x.f)
  | [], j, x, h => by simp at h
  | y :: l, 0, x, h => by
    have e : y = x := by simpa using h
    subst e
    exact ⟨rfl, rfl, rfl⟩
  | y :: l, j + 1, x, h => by
    have h2 := tokC_at l j x (by simpa using h)
    show (Value.int .i64 y.b :: Value.int .i64 y.m :: Value.int .i64 y.f :: tokC l)[3 * (j + 1)]? = _ ∧ (Value.int .i64 y.b :: Value.int .i64 y.m :: Value.int .i64 y.f :: tokC l)[3 * (j + 1) + 1]? = _ ∧ (Value.int .i64 y.b :: Value.int .i64 y.m :: Value.int .i64 y.f :: tokC l)[3 * (j + 1) + 2]? = _
    rw [show 3 * (j + 1) = 3 * j + 1 + 1 + 1 by omega, show 3 * j + 1 + 1 + 1 + 1 = (3 * j + 1) + 1 + 1 + 1 by omega, show 3 * j + 1 + 1 + 1 + 2 = (3 * j + 2) + 1 + 1 + 1 by omega]
    simp only [List.getElem?_cons_succ]
    exact h2
/-- Tokens in memory. -/
def TokI (w : World) (B : Nat) (v : Value) (l : List Tok) : Prop :=
  ∃ a cap, v = .slice a l.length cap ∧ l.length ≤ cap ∧ (l = [] ∨ ∃ r o, a = some ⟨r, o, none⟩ ∧ r < B ∧ ∀ j x, l[j]? = some x → w.cell? ⟨r, o + 3 * j, none⟩ = some (.int .i64 x.b) ∧ w.cell? ⟨r, o + 3 * j + 1, none⟩ = some (.int .i64 x.m) ∧ w.cell? ⟨r, o + 3 * j + 2, none⟩ = some (.int .i64 x.f))
theorem own_toks {w : World} {base e : Nat} {v : Value} {l : List Tok} (h : w.ownsRow base e 3 v l.length (tokC l)) : TokI w w.heap.size v l := by
  have h0 := h
  obtain ⟨_, ⟨rfl, hn⟩ | ⟨g, cap, cur, rfl, hg, hb, hc, _⟩⟩ := h
  · exact ⟨none, 0, by rw [hn], by omega, .inl (List.length_eq_zero_iff.1 hn)⟩
  · refine ⟨_, cap, rfl, hc, .inr ⟨g, 0, rfl, (h0.lt g rfl).2, fun j x hx => ?_⟩⟩
    have hj := (List.getElem?_eq_some_iff.1 hx).1
    rw [Nat.zero_add, h0.cellAt (3 * j) (by omega), h0.cellAt (3 * j + 1) (by omega), h0.cellAt (3 * j + 2) (by omega)]
    exact tokC_at l j x hx
theorem TokI.below {w w' : World} {B : Nat} {v : Value} {l : List Tok} (h : TokI w B v l) (hb : Below B w w') : TokI w' B v l := by
  obtain ⟨a, cap, e, hc, h⟩ := h
  refine ⟨a, cap, e, hc, ?_⟩
  rcases h with h | ⟨r, o, e2, hr, hcell⟩
  · exact .inl h
  · exact .inr ⟨r, o, e2, hr, fun j x hx => ⟨(hb.cell (p := ⟨r, o + 3 * j, none⟩) hr).trans (hcell j x hx).1, (hb.cell (p := ⟨r, o + 3 * j + 1, none⟩) hr).trans (hcell j x hx).2.1, (hb.cell (p := ⟨r, o + 3 * j + 2, none⟩) hr).trans (hcell j x hx).2.2⟩⟩
theorem TokI.wide {w : World} {B C : Nat} {v : Value} {l : List Tok} (h : TokI w B v l) (hb : B ≤ C) : TokI w C v l := by
  obtain ⟨a, cap, e, hc, h⟩ := h
  refine ⟨a, cap, e, hc, ?_⟩
  rcases h with h | ⟨r, o, e2, hr, hcell⟩
  · exact .inl h
  · exact .inr ⟨r, o, e2, Nat.lt_of_lt_of_le hr hb, hcell⟩
theorem tri_cells (w : World) (x y z : Value) (t n : Nat) (hn : w.heap.size = n) : ∀ (j : Nat) (u : Value), [x, y, z][j]? = some u → (w.alloc (.cells #[x, y, z] t)).cell? ((⟨n, 0, none⟩ : Addr).add j) = some u := by
  subst hn; exact World.news_of_block (heap_alloc_new w (.cells #[x, y, z] t))
theorem tri_one (x y z : Int) : ∀ u ∈ [Value.int .i64 x, Value.int .i64 y, Value.int .i64 z], u.oneCell' = true := by intro u hu; simp at hu; rcases hu with rfl | rfl | rfl <;> rfl
theorem split_at {α : Type} (l : List α) (k : Nat) (x : α) (h : l[k]? = some x) : l = l.take k ++ x :: l.drop (k + 1) := by
  have hk := (List.getElem?_eq_some_iff.1 h).1
  rw [List.getElem?_eq_getElem hk] at h
  rw [← Option.some.inj h, List.getElem_cons_drop, List.take_append_drop]
theorem take_snoc {α : Type} (l : List α) (k : Nat) (x : α) (h : l[k]? = some x) : l.take (k + 1) = l.take k ++ [x] := by
  have hk := (List.getElem?_eq_some_iff.1 h).1
  rw [List.take_succ_eq_append_getElem hk]
  rw [List.getElem?_eq_getElem hk] at h
  rw [Option.some.inj h]
theorem tokOk_cases (x : Tok) (h : tokOk x = true) : (x.f = 0 ∧ x.m = 0 ∧ 0 ≤ x.b ∧ x.b ≤ 255) ∨ (x.f ≠ 0 ∧ 3 ≤ x.m ∧ x.m ≤ 66 ∧ 1 ≤ x.f ∧ x.f ≤ 1024) := by
  unfold tokOk at h
  split at h
  · rename_i h2
    have := of_decide_eq_true h
    exact .inl ⟨h2.2, h2.1, this.1, this.2⟩
  · have := of_decide_eq_true h
    exact .inr ⟨by omega, this.2⟩
end Go.Proofs.Ytdoodkabmeojmaa
