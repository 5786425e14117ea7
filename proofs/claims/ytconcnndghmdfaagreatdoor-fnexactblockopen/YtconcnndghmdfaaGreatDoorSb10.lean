/- Put together: RangeC, RangeM, BitsM, BitsC, TokC. -/
import Derived.Test.YtconcnndghmdfaaGreatDoorSb8
import Derived.Test.YtconcnndghmdfaaGreatDoorSb1
import Derived.Laws.BitsLemmas
import Derived.WalkKit
import Derived.Below
import Derived.OwnWalk
import Derived.Laws.IdiomStrings
import Derived.Deep.AppendLies
import Derived.Test.YtconcnndghmdfaaGreatDoorSb9
namespace Go.Proofs.YtconcnndghmdfaaGreatDoor
/-- The byte j of the n bytes of V. -/
def byN (n V j : Nat) : UInt8 := UInt8.ofNat (V / 256 ^ (n - 1 - j) % 256)
/-- V's bytes, the last k of them 0. -/
def cutZ (n V k j : Nat) : UInt8 := if n - k ≤ j then 0 else byN n V j
theorem bytesOf_byN (n V : Nat) : bytesOf n V = (List.range n).map (byN n V) := by
  apply List.ext_getElem?
  intro j
  by_cases hj : j < n
  · rw [bytesOf_at n V j hj, List.getElem?_map, List.getElem?_range hj]; rfl
  · rw [List.getElem?_eq_none (by rw [bytesOf_len]; omega), List.getElem?_eq_none (by simp; omega)]
theorem carry_num (V k : Nat) (h : V % 256 ^ k = 256 ^ k - 1) : (V + 1) = (V / 256 ^ k + 1) * 256 ^ k := by
  have hp : 0 < 256 ^ k := Nat.pow_pos (by decide)
  have h2 := Nat.div_add_mod V (256 ^ k)
  rw [Nat.add_mul, Nat.one_mul, Nat.mul_comm (V / 256 ^ k)]
  omega
/-- Where the last k bytes are 255 and the one ahead of them is not: the bytes of V + 1. -/
theorem carry_by (n V k j : Nat) (hk : k < n) (hj : j < n) (h : V % 256 ^ k = 256 ^ k - 1) (hb : V / 256 ^ k % 256 ≠ 255) :
    byN n (V + 1) j = if j = n - 1 - k then UInt8.ofNat (V / 256 ^ k % 256 + 1) else cutZ n V k j := by
  have hp : 0 < 256 ^ k := Nat.pow_pos (by decide)
  have hc := carry_num V k h
  obtain ⟨q, hq⟩ : ∃ q, q = V / 256 ^ k := ⟨_, rfl⟩
  rw [← hq] at hc hb ⊢
  unfold byN cutZ
  by_cases e : j = n - 1 - k
  · rw [if_pos e, show n - 1 - j = k by omega, hc, Nat.mul_div_cancel _ hp, show (q + 1) % 256 = q % 256 + 1 by omega]
  · rw [if_neg e]
    by_cases e2 : n - k ≤ j
    · rw [if_pos e2]
      have e3 : 256 ^ k = 256 ^ (k - 1 - (n - 1 - j)) * 256 * 256 ^ (n - 1 - j) := by
        rw [Nat.mul_assoc, Nat.mul_comm 256, ← Nat.mul_assoc, ← Nat.pow_add, ← Nat.pow_succ]; congr 1; omega
      rw [hc, e3, ← Nat.mul_assoc, Nat.mul_div_cancel _ (Nat.pow_pos (by decide)), ← Nat.mul_assoc, Nat.mul_mod_left]
      rfl
    · rw [if_neg e2]
      unfold byN
      have e3 : 256 ^ (n - 1 - j) = 256 ^ k * (256 * 256 ^ (n - 1 - j - k - 1)) := by
        rw [← Nat.pow_succ', ← Nat.pow_add]; congr 1; omega
      rw [e3, ← Nat.div_div_eq_div_mul, ← Nat.div_div_eq_div_mul, ← Nat.div_div_eq_div_mul, ← Nat.div_div_eq_div_mul, ← hq]
      rw [show (V + 1) / 256 ^ k = q + 1 by rw [hc, Nat.mul_div_cancel _ hp], show (q + 1) / 256 = q / 256 by omega]
theorem carry_more (V k : Nat) (h : V % 256 ^ k = 256 ^ k - 1) (hb : V / 256 ^ k % 256 = 255) : V % 256 ^ (k + 1) = 256 ^ (k + 1) - 1 := by
  have hp : 0 < 256 ^ k := Nat.pow_pos (by decide)
  rw [Nat.mod_pow_succ, h, hb, Nat.pow_succ]
  omega
theorem carry_never (n V : Nat) (hV : V + 1 < 256 ^ n) (h : V % 256 ^ n = 256 ^ n - 1) : False := by
  rw [Nat.mod_eq_of_lt (by omega)] at h
  omega
end Go.Proofs.YtconcnndghmdfaaGreatDoor
namespace Go.Proofs.YtconcnndghmdfaaGreatDoor
open Go Go.RowKit
theorem and64 (a : Nat) (ha : a < 18446744073709551616) : bits .and .u64 (a : Int) 4294967295 = ((a % 4294967296 : Nat) : Int) := by
  have hx : a &&& 4294967295 = a % 4294967296 := Nat.and_two_pow_sub_one_eq_mod a 32
  show IntKind.u64.wrap ((BitVec.ofInt 64 (a : Int) &&& BitVec.ofInt 64 ((4294967295 : Nat) : Int)).toNat : Int) = _
  rw [BitVec.toNat_and, BitVec.ofInt_natCast, BitVec.ofInt_natCast, BitVec.toNat_ofNat, BitVec.toNat_ofNat, Nat.mod_eq_of_lt ha, show 4294967295 % 2 ^ 64 = 4294967295 from rfl, hx, IntKind.wrap_u64]
  omega
theorem byN_snoc (n V : Nat) (b : UInt8) (j : Nat) (hj : j < n + 1) : byN (n + 1) (256 * V + b.toNat) j = if j = n then b else byN n V j := by
  have hb := b.toNat_lt
  unfold byN
  by_cases e : j = n
  · rw [if_pos e, e, show n + 1 - 1 - n = 0 by omega, Nat.pow_zero, Nat.div_one, show (256 * V + b.toNat) % 256 = b.toNat by omega, UInt8.ofNat_toNat]
  · rw [if_neg e, show n + 1 - 1 - j = (n - 1 - j) + 1 by omega, Nat.pow_succ, Nat.mul_comm (256 ^ (n - 1 - j)), ← Nat.div_div_eq_div_mul, show (256 * V + b.toNat) / 256 = V by omega]
theorem low_shift (L : Nat) : 256 * L / 4294967296 = 256 * (L / 4294967296) + L % 4294967296 / 16777216 ∧ 256 * L % 4294967296 = 256 * (L % 4294967296) % 4294967296 := by omega
end Go.Proofs.YtconcnndghmdfaaGreatDoor
namespace Go.Proofs.YtconcnndghmdfaaGreatDoor
open Go.RowKit
theorem norm_n_le (s : RC) : (norm s).n ≤ s.n + 1 := by unfold norm; split; exact Nat.le_refl _; exact Nat.le_succ _
theorem run_n_le : ∀ l s, (run s l).n ≤ s.n + l.length
  | [], _ => Nat.le_refl _
  | x :: l, s => by
    have h := run_n_le l (step s x.1 x.2)
    have h2 : (step s x.1 x.2).n ≤ s.n + 1 := by have := norm_n_le (part1 s x.1 x.2); rw [part1_n] at this; exact this
    show (run (step s x.1 x.2) l).n ≤ s.n + (l.length + 1)
    omega
/-- Bits in memory, behind the value v. -/
def BitsAt (w : World) (B : Nat) (v : Value) (l : List (Nat × Bool)) : Prop :=
  ∃ a cap, v = .slice a l.length cap ∧ l.length ≤ cap ∧ (l = [] ∨ ∃ r o, a = some ⟨r, o, none⟩ ∧ r < B ∧ ∀ j x, l[j]? = some x → w.cell? ⟨r, o + 2 * j, none⟩ = some (.int .i64 (x.1 : Int)) ∧ w.cell? ⟨r, o + 2 * j + 1, none⟩ = some (.bool x.2))
theorem take_step (L : List (Nat × Bool)) (k : Nat) (x : Nat × Bool) (h : L[k]? = some x) : run rc0 (L.take (k + 1)) = step (run rc0 (L.take k)) x.1 x.2 := by
  have hk : k < L.length := (List.getElem?_eq_some_iff.1 h).1
  rw [List.take_succ_eq_append_getElem hk, run_snoc]
  rw [List.getElem?_eq_getElem hk] at h
  rw [Option.some.inj h]
theorem code4 (n L : Nat) (b3 b2 b1 b0 : UInt8) (h3 : b3.toNat = L % 4294967296 / 16777216) (h2 : b2.toNat = L % 4294967296 / 65536 % 256) (h1 : b1.toNat = L % 4294967296 / 256 % 256) (h0 : b0.toNat = L % 4294967296 % 256) :
    bytesOf (n + 4) L = (List.range n).map (byN n (L / 4294967296)) ++ [b3, b2, b1, b0] := by
  have e : L = 256 * (256 * (256 * (256 * (L / 4294967296) + b3.toNat) + b2.toNat) + b1.toNat) + b0.toNat := by omega
  have g : bytesOf (n + 3 + 1) L = bytesOf n (L / 4294967296) ++ [b3] ++ [b2] ++ [b1] ++ [b0] := by
    rw [← bytesOf_snoc, ← bytesOf_snoc, ← bytesOf_snoc, ← bytesOf_snoc, ← e]
  rw [show n + 4 = n + 3 + 1 from rfl, g, bytesOf_byN]
  simp
theorem conv_own {P : Program} {w : World} {base e src dst g N cap : Nat} {l : List UInt8} (h : w.ownsRow base e 1 (.slice (some ⟨g, 0, none⟩) N cap) N (l.map byteV)) (hN : l.length = N) (hs : P.underlying src = some (.slice e)) (he : P.underlying e = some (.int .u8)) (hd : P.underlying dst = some .string) :
    (convert src dst (.slice (some ⟨g, 0, none⟩) N cap)).run P w = .ok (.string ⟨l.toArray⟩) w := by
  subst hN
  exact run_convert_bytes_back (P := P) w src dst e ⟨g, 0, none⟩ cap l hs he hd (fun j hj => by
    have e3 : (⟨g, 0, none⟩ : Addr).add j = ⟨g, j, none⟩ := by by_cases hz : j = 0 <;> simp [Addr.add, hz]
    rw [e3, h.cellAt j (by omega), List.getElem?_map, List.getElem?_eq_getElem hj]; rfl)
/-- Bits in memory, whatever their contexts. -/
def BitsI (w : World) (B : Nat) (v : Value) (l : List (Int × Bool)) : Prop :=
  ∃ a cap, v = .slice a l.length cap ∧ l.length ≤ cap ∧ (l = [] ∨ ∃ r o, a = some ⟨r, o, none⟩ ∧ r < B ∧ ∀ j x, l[j]? = some x → w.cell? ⟨r, o + 2 * j, none⟩ = some (.int .i64 x.1) ∧ w.cell? ⟨r, o + 2 * j + 1, none⟩ = some (.bool x.2))
def ctxOk (n : Int) : Bool := decide (0 ≤ n ∧ n < 1600)
def bitsN (l : List (Int × Bool)) : List (Nat × Bool) := l.map fun x => (x.1.toNat, x.2)
/-- RangeEncode. -/
def encS (l : List (Int × Bool)) : ByteArray := if l.length ≤ 400 ∧ ∀ x ∈ l, ctxOk x.1 = true then ⟨(codeOf (bitsN l)).toArray⟩ else ⟨#[]⟩
theorem BitsI.nat {w : World} {B : Nat} {v : Value} {l : List (Int × Bool)} (h : BitsI w B v l) (hc : ∀ x ∈ l, ctxOk x.1 = true) : BitsAt w B v (bitsN l) := by
  obtain ⟨a, cap, rfl, hcap, hb⟩ := h
  have hlen : (bitsN l).length = l.length := by simp [bitsN]
  refine ⟨a, cap, by rw [hlen], by rw [hlen]; exact hcap, ?_⟩
  rcases hb with rfl | ⟨r, o, rfl, hr, hcell⟩
  · exact .inl rfl
  · refine .inr ⟨r, o, rfl, hr, fun j x hx => ?_⟩
    unfold bitsN at hx
    rw [List.getElem?_map] at hx
    obtain ⟨y, hy, rfl⟩ := Option.map_eq_some_iff.1 hx
    have h := hcell j y hy
    have h2 := of_decide_eq_true (hc y (List.mem_of_getElem? hy))
    refine ⟨?_, h.2⟩
    show _ = some (Value.int .i64 ((y.1.toNat : Nat) : Int))
    rw [h.1, Int.toNat_of_nonneg h2.1]
theorem BitsI.below {w w' : World} {B : Nat} {v : Value} {l : List (Int × Bool)} (h : BitsI w B v l) (hb : Below B w w') : BitsI w' B v l := by
  obtain ⟨a, cap, e, hc, h⟩ := h
  refine ⟨a, cap, e, hc, ?_⟩
  rcases h with h | ⟨r, o, e2, hr, hcell⟩
  · exact .inl h
  · exact .inr ⟨r, o, e2, hr, fun j x hx => ⟨(hb.cell (p := ⟨r, o + 2 * j, none⟩) hr).trans (hcell j x hx).1, (hb.cell (p := ⟨r, o + 2 * j + 1, none⟩) hr).trans (hcell j x hx).2⟩⟩
theorem BitsI.wide {w : World} {B C : Nat} {v : Value} {l : List (Int × Bool)} (h : BitsI w B v l) (hb : B ≤ C) : BitsI w C v l := by
  obtain ⟨a, cap, e, hc, h⟩ := h
  refine ⟨a, cap, e, hc, ?_⟩
  rcases h with h | ⟨r, o, e2, hr, hcell⟩
  · exact .inl h
  · exact .inr ⟨r, o, e2, Nat.lt_of_lt_of_le hr hb, hcell⟩
end Go.Proofs.YtconcnndghmdfaaGreatDoor
namespace Go.Proofs.YtconcnndghmdfaaGreatDoor
open Go.RowKit
/-- The cells of bits. -/
def bitC (l : List (Int × Bool)) : List Value := l.flatMap fun x => [.int .i64 x.1, .bool x.2]
theorem bitC_len : ∀ l, (bitC l).length = l.length * 2
  | [] => rfl
  | x :: l => by
    show (bitC l).length + 2 = (l.length + 1) * 2
    rw [bitC_len l]; omega
theorem bitC_snoc (l : List (Int × Bool)) (x : Int × Bool) : bitC (l ++ [x]) = bitC l ++ [.int .i64 x.1, .bool x.2] := by simp [bitC]
theorem bitC_at : ∀ (l : List (Int × Bool)) (j : Nat) (x : Int × Bool), l[j]? = some x → (bitC l)[2 * j]? = some (.int .i64 x.1) ∧ (bitC l)[2 * j + 1]? = some (.bool x.2)
  | [], j, x, h => by simp at h
  | y :: l, 0, x, h => by
    have e : y = x := by simpa using h
    subst e
    exact ⟨rfl, rfl⟩
  | y :: l, j + 1, x, h => by
    have h2 := bitC_at l j x (by simpa using h)
    show (Value.int .i64 y.1 :: Value.bool y.2 :: bitC l)[2 * (j + 1)]? = _ ∧ (Value.int .i64 y.1 :: Value.bool y.2 :: bitC l)[2 * (j + 1) + 1]? = _
    rw [show 2 * (j + 1) = 2 * j + 1 + 1 by omega, List.getElem?_cons_succ, List.getElem?_cons_succ, List.getElem?_cons_succ, List.getElem?_cons_succ]
    exact h2
/-- Bits that a call has gathered are bits in memory. -/
theorem own_bits {w : World} {base e : Nat} {v : Value} {l : List (Int × Bool)} (h : w.ownsRow base e 2 v l.length (bitC l)) : BitsI w w.heap.size v l := by
  have h0 := h
  obtain ⟨_, ⟨rfl, hn⟩ | ⟨g, cap, cur, rfl, hg, hb, hc, _⟩⟩ := h
  · exact ⟨none, 0, by rw [hn], by omega, .inl (List.length_eq_zero_iff.1 hn)⟩
  · refine ⟨_, cap, rfl, hc, .inr ⟨g, 0, rfl, (h0.lt g rfl).2, fun j x hx => ?_⟩⟩
    have hj := (List.getElem?_eq_some_iff.1 hx).1
    rw [Nat.zero_add, h0.cellAt (2 * j) (by omega), h0.cellAt (2 * j + 1) (by omega)]
    exact bitC_at l j x hx
end Go.Proofs.YtconcnndghmdfaaGreatDoor
namespace Go.Proofs.YtconcnndghmdfaaGreatDoor
open Go.RowKit
/-- A token, as a value. -/
def tokV (t : Tok) : Value := .agg #[.int .i64 t.b, .int .i64 t.m, .int .i64 t.f]
/-- How many bytes a token makes. -/
def tokSize (m : Int) : Int := if m = 0 then 1 else m
/-- The cells of tokens. -/
def tokC (l : List Tok) : List Value := l.flatMap fun x => [.int .i64 x.b, .int .i64 x.m, .int .i64 x.f]
theorem tokC_len : ∀ l, (tokC l).length = l.length * 3
  | [] => rfl
  | x :: l => by
    show (tokC l).length + 3 = (l.length + 1) * 3
    rw [tokC_len l]; omega
theorem tokC_snoc (l : List Tok) (x : Tok) : tokC (l ++ [x]) = tokC l ++ [.int .i64 x.b, .int .i64 x.m, .int .i64 x.f] := by simp [tokC]
theorem tokC_at : ∀ (l : List Tok) (j : Nat) (x : Tok), l[j]? = some x → (tokC l)[3 * j]? = some (.int .i64 x.b) ∧ (tokC l)[3 * j + 1]? = some (.int .i64 x.m) ∧ (tokC l)[3 * j + 2]? = some (.int .i64 x.f)
  | [], j, x, h => by simp at h
  | y :: l, 0, x, h => by
    have e : y = x := by simpa using h
    subst e
    exact ⟨rfl, rfl, rfl⟩
  | y :: l, j + 1, x, h => by
    have h2 := tokC_at l j x (by simpa using h)
    show (Value.int .i64 y.b :: Value.int .i64 y.m :: Value.int .i64 y.f :: tokC l)[3 * (j + 1)]? = _ ∧ (Value.int .i64 y.b :: Value.int .i64 y.m :: Value.int .i64 y.f :: tokC l)[3 * (j + 1) + 1]? = _ ∧ (Value.int .i64 y.b :: Value.int .i64 y.m :: Value.int .i64 y.f :: tokC l)[3 * (j + 1) + 2]? = _
    rw [show 3 * (j + 1) = 3 * j + 1 + 1 + 1 by omega, show 3 * j + 1 + 1 + 1 + 1 = (3 * j + 1) + 1 + 1 + 1 by omega, show 3 * j + 1 + 1 + 1 + 2 = (3 * j + 2) + 1 + 1 + 1 by omega]
    simp only [List.getElem?_cons_succ]
    exact h2
/-- Tokens in memory. -/
def TokI (w : World) (B : Nat) (v : Value) (l : List Tok) : Prop :=
  ∃ a cap, v = .slice a l.length cap ∧ l.length ≤ cap ∧ (l = [] ∨ ∃ r o, a = some ⟨r, o, none⟩ ∧ r < B ∧ ∀ j x, l[j]? = some x → w.cell? ⟨r, o + 3 * j, none⟩ = some (.int .i64 x.b) ∧ w.cell? ⟨r, o + 3 * j + 1, none⟩ = some (.int .i64 x.m) ∧ w.cell? ⟨r, o + 3 * j + 2, none⟩ = some (.int .i64 x.f))
theorem own_toks {w : World} {base e : Nat} {v : Value} {l : List Tok} (h : w.ownsRow base e 3 v l.length (tokC l)) : TokI w w.heap.size v l := by
  have h0 := h
  obtain ⟨_, ⟨rfl, hn⟩ | ⟨g, cap, cur, rfl, hg, hb, hc, _⟩⟩ := h
  · exact ⟨none, 0, by rw [hn], by omega, .inl (List.length_eq_zero_iff.1 hn)⟩
  · refine ⟨_, cap, rfl, hc, .inr ⟨g, 0, rfl, (h0.lt g rfl).2, fun j x hx => ?_⟩⟩
    have hj := (List.getElem?_eq_some_iff.1 hx).1
    rw [Nat.zero_add, h0.cellAt (3 * j) (by omega), h0.cellAt (3 * j + 1) (by omega), h0.cellAt (3 * j + 2) (by omega)]
    exact tokC_at l j x hx
theorem TokI.below {w w' : World} {B : Nat} {v : Value} {l : List Tok} (h : TokI w B v l) (hb : Below B w w') : TokI w' B v l := by
  obtain ⟨a, cap, e, hc, h⟩ := h
  refine ⟨a, cap, e, hc, ?_⟩
  rcases h with h | ⟨r, o, e2, hr, hcell⟩
  · exact .inl h
  · exact .inr ⟨r, o, e2, hr, fun j x hx => ⟨(hb.cell (p := ⟨r, o + 3 * j, none⟩) hr).trans (hcell j x hx).1, (hb.cell (p := ⟨r, o + 3 * j + 1, none⟩) hr).trans (hcell j x hx).2.1, (hb.cell (p := ⟨r, o + 3 * j + 2, none⟩) hr).trans (hcell j x hx).2.2⟩⟩
theorem TokI.wide {w : World} {B C : Nat} {v : Value} {l : List Tok} (h : TokI w B v l) (hb : B ≤ C) : TokI w C v l := by
  obtain ⟨a, cap, e, hc, h⟩ := h
  refine ⟨a, cap, e, hc, ?_⟩
  rcases h with h | ⟨r, o, e2, hr, hcell⟩
  · exact .inl h
  · exact .inr ⟨r, o, e2, Nat.lt_of_lt_of_le hr hb, hcell⟩
theorem tri_cells (w : World) (x y z : Value) (t n : Nat) (hn : w.heap.size = n) : ∀ (j : Nat) (u : Value), [x, y, z][j]? = some u → (w.alloc (.cells #[x, y, z] t)).cell? ((⟨n, 0, none⟩ : Addr).add j) = some u := by
  subst hn; exact World.news_of_block (heap_alloc_new w (.cells #[x, y, z] t))
theorem tri_one (x y z : Int) : ∀ u ∈ [Value.int .i64 x, Value.int .i64 y, Value.int .i64 z], u.oneCell' = true := by intro u hu; simp at hu; rcases hu with rfl | rfl | rfl <;> rfl
theorem split_at {α : Type} (l : List α) (k : Nat) (x : α) (h : l[k]? = some x) : l = l.take k ++ x :: l.drop (k + 1) := by
  have hk := (List.getElem?_eq_some_iff.1 h).1
  rw [List.getElem?_eq_getElem hk] at h
  rw [← Option.some.inj h, List.getElem_cons_drop, List.take_append_drop]
theorem take_snoc {α : Type} (l : List α) (k : Nat) (x : α) (h : l[k]? = some x) : l.take (k + 1) = l.take k ++ [x] := by
  have hk := (List.getElem?_eq_some_iff.1 h).1
  rw [List.take_succ_eq_append_getElem hk]
  rw [List.getElem?_eq_getElem hk] at h
  rw [Option.some.inj h]
theorem tokOk_cases (x : Tok) (h : tokOk x = true) : (x.f = 0 ∧ x.m = 0 ∧ 0 ≤ x.b ∧ x.b ≤ 255) ∨ (x.f ≠ 0 ∧ 3 ≤ x.m ∧ x.m ≤ 66 ∧ 1 ≤ x.f ∧ x.f ≤ 1024) := by
  unfold tokOk at h
  split at h
  · rename_i h2
    have := of_decide_eq_true h
    exact .inl ⟨h2.2, h2.1, this.1, this.2⟩
  · have := of_decide_eq_true h
    exact .inr ⟨by omega, this.2⟩
end Go.Proofs.YtconcnndghmdfaaGreatDoor
