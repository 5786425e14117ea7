/- Bits in memory, and what their code is. No program is named here. -/
import Derived.Test.YtdoodkabmeojmaaDoorRangeC
import Derived.Test.YtdoodkabmeojmaaDoorRangeM
import Derived.WalkKit
import Derived.Below
import Derived.OwnWalk
import Derived.Laws.IdiomStrings
namespace Go.Proofs.YtdoodkabmeojmaaDoor
open Go.RowKit
theorem norm_n_le (s : RC) : (norm s).n ≤ s.n + 1 := by unfold norm; split; exact Nat.le_refl _; exact Nat.le_succ _
theorem run_n_le : ∀ l s, (run s l).n ≤ s.n + l.length
  | [], _ => Nat.le_refl _
  | x :: l, s => by
    have h := run_n_le l (step s x.1 x.2)
    have h2 : (step s x.1 x.2).n ≤ s.n + 1 := by have := norm_n_le (part1 s x.1 x.2); rw [part1_n] at this; exact this
    show (run (step s x.1 x.2) l).n ≤ s.n + (l.length + 1)
    omega
/-- Bits in memory, behind the value v. -/
def BitsAt (w : World) (B : Nat) (v : Value) (l : List (Nat × Bool)) : Prop :=
  ∃ a cap, v = .slice a l.length cap ∧ l.length ≤ cap ∧ (l = [] ∨ ∃ r o, a = some ⟨r, o, none⟩ ∧ r < B ∧ ∀ j x, l[j]? = some x → w.cell? ⟨r, o + 2 * j, none⟩ = some (.int .i64 (x.1 : Int)) ∧ w.cell? ⟨r, o + 2 * j + 1, none⟩ = some (.bool x.2))
theorem take_step (L : List (Nat × Bool)) (k : Nat) (x : Nat × Bool) (h : L[k]? = some x) : run rc0 (L.take (k + 1)) = step (run rc0 (L.take k)) x.1 x.2 := by
  have hk : k < L.length := (List.getElem?_eq_some_iff.1 h).1
  rw [List.take_succ_eq_append_getElem hk, run_snoc]
  rw [List.getElem?_eq_getElem hk] at h
  rw [Option.some.inj h]
theorem code4 (n L : Nat) (b3 b2 b1 b0 : UInt8) (h3 : b3.toNat = L % 4294967296 / 16777216) (h2 : b2.toNat = L % 4294967296 / 65536 % 256) (h1 : b1.toNat = L % 4294967296 / 256 % 256) (h0 : b0.toNat = L % 4294967296 % 256) :
    bytesOf (n + 4) L = (List.range n).map (byN n (L / 4294967296)) ++ [b3, b2, b1, b0] := by
  have e : L = 256 * (256 * (256 * (256 * (L / 4294967296) + b3.toNat) + b2.toNat) + b1.toNat) + b0.toNat := by omega
  have g : bytesOf (n + 3 + 1) L = bytesOf n (L / 4294967296) ++ [b3] ++ [b2] ++ [b1] ++ [b0] := by
    rw [← bytesOf_snoc, ← bytesOf_snoc, ← bytesOf_snoc, ← bytesOf_snoc, ← e]
  rw [show n + 4 = n + 3 + 1 from rfl, g, bytesOf_byN]
  simp
theorem conv_own {P : Program} {w : World} {base e src dst g N cap : Nat} {l : List UInt8} (h : w.ownsRow base e 1 (.slice (some ⟨g, 0, none⟩) N cap) N (l.map byteV)) (hN : l.length = N) (hs : P.underlying src = some (.slice e)) (he : P.underlying e = some (.int .u8)) (hd : P.underlying dst = some .string) :
    (convert src dst (.slice (some ⟨g, 0, none⟩) N cap)).run P w = .ok (.string ⟨l.toArray⟩) w := by
  subst hN
  exact run_convert_bytes_back (P := P) w src dst e ⟨g, 0, none⟩ cap l hs he hd (fun j hj => by
    have e3 : (⟨g, 0, none⟩ : Addr).add j = ⟨g, j, none⟩ := by by_cases hz : j = 0 <;> simp [Addr.add, hz]
    rw [e3, h.cellAt j (by omega), List.getElem?_map, List.getElem?_eq_getElem hj]; rfl)
/-- Bits in memory, whatever their contexts. -/
def BitsI (w : World) (B : Nat) (v : Value) (l : List (Int × Bool)) : Prop :=
  ∃ a cap, v = .slice a l.length cap ∧ l.length ≤ cap ∧ (l = [] ∨ ∃ r o, a = some ⟨r, o, none⟩ ∧ r < B ∧ ∀ j x, l[j]? = some x → w.cell? ⟨r, o + 2 * j, none⟩ = some (.int .i64 x.1) ∧ w.cell? ⟨r, o + 2 * j + 1, none⟩ = some (.bool x.2))
def ctxOk (n : Int) : Bool := decide (0 ≤ n ∧ n < 1600)
def bitsN (l : List (Int × Bool)) : List (Nat × Bool) := l.map fun x => (x.1.toNat, x.2)
/-- RangeEncode. -/
def encS (l : List (Int × Bool)) : ByteArray := if l.length ≤ 400 ∧ ∀ x ∈ l, ctxOk x.1 = true then ⟨(codeOf (bitsN l)).toArray⟩ else ⟨#[]⟩
theorem BitsI.nat {w : World} {B : Nat} {v : Value} {l : List (Int × Bool)} (h : BitsI w B v l) (hc : ∀ x ∈ l, ctxOk x.1 = true) : BitsAt w B v (bitsN l) := by
  obtain ⟨a, cap, rfl, hcap, hb⟩ := h
  have hlen : (bitsN l).length = l.length := by simp [bitsN]
  refine ⟨a, cap, by rw [hlen], by rw [hlen]; exact hcap, ?_⟩
  rcases hb with rfl | ⟨r, o, rfl, hr, hcell⟩
  · exact .inl rfl
  · refine .inr ⟨r, o, rfl, hr, fun j x hx => ?_⟩
    unfold bitsN at hx
    rw [List.getElem?_map] at hx
    obtain ⟨y, hy, rfl⟩ := Option.map_eq_some_iff.1 hx
    have h := hcell j y hy
    have h2 := of_decide_eq_true (hc y (List.mem_of_getElem? hy))
    refine ⟨?_, h.2⟩
    show _ = some (Value.int .i64 ((y.1.toNat : Nat) : Int))
    rw [h.1, Int.toNat_of_nonneg h2.1]
theorem BitsI.below {w w' : World} {B : Nat} {v : Value} {l : List (Int × Bool)} (h : BitsI w B v l) (hb : Below B w w') : BitsI w' B v l := by
  obtain ⟨a, cap, e, hc, h⟩ := h
  refine ⟨a, cap, e, hc, ?_⟩
  rcases h with h | ⟨r, o, e2, hr, hcell⟩
  · exact .inl h
  · exact .inr ⟨r, o, e2, hr, fun j x hx => ⟨(hb.cell (p := ⟨r, o + 2 * j, none⟩) hr).trans (hcell j x hx).1, (hb.cell (p := ⟨r, o + 2 * j + 1, none⟩) hr).trans (hcell j x hx).2⟩⟩
theorem BitsI.wide {w : World} {B C : Nat} {v : Value} {l : List (Int × Bool)} (h : BitsI w B v l) (hb : B ≤ C) : BitsI w C v l := by
  obtain ⟨a, cap, e, hc, h⟩ := h
  refine ⟨a, cap, e, hc, ?_⟩
  rcases h with h | ⟨r, o, e2, hr, hcell⟩
  · exact .inl h
  · exact .inr ⟨r, o, e2, Nat.lt_of_lt_of_le hr hb, hcell⟩
end Go.Proofs.YtdoodkabmeojmaaDoor
