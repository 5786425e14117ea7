/- Put together: RangeC, RangeM, BitsM, BitsC, TokC, PackS. -/
import Derived.Test.YtconcnndghmdfaaGreatDoorSf8
import Derived.Test.YtconcnndghmdfaaGreatDoorSf6
namespace Go.Proofs.YtconcnndghmdfaaGreatDoor
def byN (n V j : Nat) : UInt8 := UInt8.ofNat (V / 256 ^ (n - 1 - j) % 256)
def cutZ (n V k j : Nat) : UInt8 := if n - k ≤ j then 0 else byN n V j
theorem bytesOf_byN (n V : Nat) : bytesOf n V = (List.range n).map (byN n V) := by
 apply List.ext_getElem?
 intro j
 by_cases hj : j < n
 · rw [bytesOf_at n V j hj, List.getElem?_map, List.getElem?_range hj]; rfl
 · rw [List.getElem?_eq_none (by rw [bytesOf_len]; omega), List.getElem?_eq_none (by simp; omega)]
theorem carry_num (V k : Nat) (h : V % 256 ^ k = 256 ^ k - 1) : (V + 1) = (V / 256 ^ k + 1) * 256 ^ k := by
 have hp : 0 < 256 ^ k := Nat.pow_pos (by decide)
 have h2 := Nat.div_add_mod V (256 ^ k)
 rw [Nat.add_mul, Nat.one_mul, Nat.mul_comm (V / 256 ^ k)]
 omega
theorem carry_by (n V k j : Nat) (hk : k < n) (hj : j < n) (h : V % 256 ^ k = 256 ^ k - 1) (hb : V / 256 ^ k % 256 ≠ 255) :
 byN n (V + 1) j = if j = n - 1 - k then UInt8.ofNat (V / 256 ^ k % 256 + 1) else cutZ n V k j := by
 have hp : 0 < 256 ^ k := Nat.pow_pos (by decide)
 have hc := carry_num V k h
 obtain ⟨q, hq⟩ : ∃ q, q = V / 256 ^ k := ⟨_, rfl⟩
 rw [← hq] at hc hb ⊢
 unfold byN cutZ
 by_cases e : j = n - 1 - k
 · rw [if_pos e, show n - 1 - j = k by omega, hc, Nat.mul_div_cancel _ hp, show (q + 1) % 256 = q % 256 + 1 by omega]
 · rw [if_neg e]
   by_cases e2 : n - k ≤ j
   · rw [if_pos e2]
     have e3 : 256 ^ k = 256 ^ (k - 1 - (n - 1 - j)) * 256 * 256 ^ (n - 1 - j) := by
      rw [Nat.mul_assoc, Nat.mul_comm 256, ← Nat.mul_assoc, ← Nat.pow_add, ← Nat.pow_succ]; congr 1; omega
     rw [hc, e3, ← Nat.mul_assoc, Nat.mul_div_cancel _ (Nat.pow_pos (by decide)), ← Nat.mul_assoc, Nat.mul_mod_left]
     rfl
   · rw [if_neg e2]
     unfold byN
     have e3 : 256 ^ (n - 1 - j) = 256 ^ k * (256 * 256 ^ (n - 1 - j - k - 1)) := by
      rw [← Nat.pow_succ', ← Nat.pow_add]; congr 1; omega
     rw [e3, ← Nat.div_div_eq_div_mul, ← Nat.div_div_eq_div_mul, ← Nat.div_div_eq_div_mul, ← Nat.div_div_eq_div_mul, ← hq]
     rw [show (V + 1) / 256 ^ k = q + 1 by rw [hc, Nat.mul_div_cancel _ hp], show (q + 1) / 256 = q / 256 by omega]
theorem carry_more (V k : Nat) (h : V % 256 ^ k = 256 ^ k - 1) (hb : V / 256 ^ k % 256 = 255) : V % 256 ^ (k + 1) = 256 ^ (k + 1) - 1 := by
 have hp : 0 < 256 ^ k := Nat.pow_pos (by decide)
 rw [Nat.mod_pow_succ, h, hb, Nat.pow_succ]
 omega
theorem carry_never (n V : Nat) (hV : V + 1 < 256 ^ n) (h : V % 256 ^ n = 256 ^ n - 1) : False := by
 rw [Nat.mod_eq_of_lt (by omega)] at h
 omega
end Go.Proofs.YtconcnndghmdfaaGreatDoor
namespace Go.Proofs.YtconcnndghmdfaaGreatDoor
open Go Go.RowKit
theorem and64 (a : Nat) (ha : a < 18446744073709551616) : bits .and .u64 (a : Int) 4294967295 = ((a % 4294967296 : Nat) : Int) := by
 have hx : a &&& 4294967295 = a % 4294967296 := Nat.and_two_pow_sub_one_eq_mod a 32
 show IntKind.u64.wrap ((BitVec.ofInt 64 (a : Int) &&& BitVec.ofInt 64 ((4294967295 : Nat) : Int)).toNat : Int) = _
 rw [BitVec.toNat_and, BitVec.ofInt_natCast, BitVec.ofInt_natCast, BitVec.toNat_ofNat, BitVec.toNat_ofNat, Nat.mod_eq_of_lt ha, show 4294967295 % 2 ^ 64 = 4294967295 from rfl, hx, IntKind.wrap_u64]
 omega
theorem byN_snoc (n V : Nat) (b : UInt8) (j : Nat) (hj : j < n + 1) : byN (n + 1) (256 * V + b.toNat) j = if j = n then b else byN n V j := by
 have hb := b.toNat_lt
 unfold byN
 by_cases e : j = n
 · rw [if_pos e, e, show n + 1 - 1 - n = 0 by omega, Nat.pow_zero, Nat.div_one, show (256 * V + b.toNat) % 256 = b.toNat by omega, UInt8.ofNat_toNat]
 · rw [if_neg e, show n + 1 - 1 - j = (n - 1 - j) + 1 by omega, Nat.pow_succ, Nat.mul_comm (256 ^ (n - 1 - j)), ← Nat.div_div_eq_div_mul, show (256 * V + b.toNat) / 256 = V by omega]
theorem low_shift (L : Nat) : 256 * L / 4294967296 = 256 * (L / 4294967296) + L % 4294967296 / 16777216 ∧ 256 * L % 4294967296 = 256 * (L % 4294967296) % 4294967296 := by omega
end Go.Proofs.YtconcnndghmdfaaGreatDoor
namespace Go.Proofs.YtconcnndghmdfaaGreatDoor
open Go.RowKit
theorem norm_n_le (s : RC) : (norm s).n ≤ s.n + 1 := by unfold norm; split; exact Nat.le_refl _; exact Nat.le_succ _
theorem run_n_le : ∀ l s, (run s l).n ≤ s.n + l.length
 | [], _ => Nat.le_refl _
 | x :: l, s => by
   have h := run_n_le l (step s x.1 x.2)
   have h2 : (step s x.1 x.2).n ≤ s.n + 1 := by have := norm_n_le (part1 s x.1 x.2); rw [part1_n] at this; exact this
   show (run (step s x.1 x.2) l).n ≤ s.n + (l.length + 1)
   omega
def BitsAt (w : World) (B : Nat) (v : Value) (l : List (Nat × Bool)) : Prop :=
 ∃ a cap, v = .slice a l.length cap ∧ l.length ≤ cap ∧ (l = [] ∨ ∃ r o, a = some ⟨r, o, none⟩ ∧ r < B ∧ ∀ j x, l[j]? = some x → w.cell? ⟨r, o + 2 * j, none⟩ = some (.int .i64 (x.1 : Int)) ∧ w.cell? ⟨r, o + 2 * j + 1, none⟩ = some (.bool x.2))
theorem take_step (L : List (Nat × Bool)) (k : Nat) (x : Nat × Bool) (h : L[k]? = some x) : run rc0 (L.take (k + 1)) = step (run rc0 (L.take k)) x.1 x.2 := by
 have hk : k < L.length := (List.getElem?_eq_some_iff.1 h).1
 rw [List.take_succ_eq_append_getElem hk, run_snoc]
 rw [List.getElem?_eq_getElem hk] at h
 rw [Option.some.inj h]
theorem code4 (n L : Nat) (b3 b2 b1 b0 : UInt8) (h3 : b3.toNat = L % 4294967296 / 16777216) (h2 : b2.toNat = L % 4294967296 / 65536 % 256) (h1 : b1.toNat = L % 4294967296 / 256 % 256) (h0 : b0.toNat = L % 4294967296 % 256) :
 bytesOf (n + 4) L = (List.range n).map (byN n (L / 4294967296)) ++ [b3, b2, b1, b0] := by
 have e : L = 256 * (256 * (256 * (256 * (L / 4294967296) + b3.toNat) + b2.toNat) + b1.toNat) + b0.toNat := by omega
 have g : bytesOf (n + 3 + 1) L = bytesOf n (L / 4294967296) ++ [b3] ++ [b2] ++ [b1] ++ [b0] := by
  rw [← bytesOf_snoc, ← bytesOf_snoc, ← bytesOf_snoc, ← bytesOf_snoc, ← e]
 rw [show n + 4 = n + 3 + 1 from rfl, g, bytesOf_byN]
 simp
theorem conv_own {P : Program} {w : World} {base e src dst g N cap : Nat} {l : List UInt8} (h : w.ownsRow base e 1 (.slice (some ⟨g, 0, none⟩) N cap) N (l.map byteV)) (hN : l.length = N) (hs : P.underlying src = some (.slice e)) (he : P.underlying e = some (.int .u8)) (hd : P.underlying dst = some .string) :
 (convert src dst (.slice (some ⟨g, 0, none⟩) N cap)).run P w = .ok (.string ⟨l.toArray⟩) w := by
 subst hN
 exact run_convert_bytes_back (P := P) w src dst e ⟨g, 0, none⟩ cap l hs he hd (fun j hj => by
  have e3 : (⟨g, 0, none⟩ : Addr).add j = ⟨g, j, none⟩ := by by_cases hz : j = 0 <;> simp [Addr.add, hz]
  rw [e3, h.cellAt j (by omega), List.getElem?_map, List.getElem?_eq_getElem hj]; rfl)
def BitsI (w : World) (B : Nat) (v : Value) (l : List (Int × Bool)) : Prop :=
 ∃ a cap, v = .slice a l.length cap ∧ l.length ≤ cap ∧ (l = [] ∨ ∃ r o, a = some ⟨r, o, none⟩ ∧ r < B ∧ ∀ j x, l[j]? = some x → w.cell? ⟨r, o + 2 * j, none⟩ = some (.int .i64 x.1) ∧ w.cell? ⟨r, o + 2 * j + 1, none⟩ = some (.bool x.2))
def ctxOk (n : Int) : Bool := decide (0 ≤ n ∧ n < 1600)
def bitsN (l : List (Int × Bool)) : List (Nat × Bool) := l.map fun x => (x.1.toNat, x.2)
theorem BitsI.nat {w : World} {B : Nat} {v : Value} {l : List (Int × Bool)} (h : BitsI w B v l) (hc : ∀ x ∈ l, ctxOk x.1 = true) : BitsAt w B v (bitsN l) := by
 obtain ⟨a, cap, rfl, hcap, hb⟩ := h
 have hlen : (bitsN l).length = l.length := by simp [bitsN]
 refine ⟨a, cap, by rw [hlen], by rw [hlen]; exact hcap, ?_⟩
 rcases hb with rfl | ⟨r, o, rfl, hr, hcell⟩
 · exact .inl rfl
 · refine .inr ⟨r, o, rfl, hr, fun j x hx => ?_⟩
   unfold bitsN at hx
   rw [List.getElem?_map] at hx
   obtain ⟨y, hy, rfl⟩ := Option.map_eq_some_iff.1 hx
   have h := hcell j y hy
   have h2 := of_decide_eq_true (hc y (List.mem_of_getElem? hy))
   refine ⟨?_, h.2⟩
   show _ = some (Value.int .i64 ((y.1.toNat : Nat) : Int))
   rw [h.1, Int.toNat_of_nonneg h2.1]
theorem BitsI.below {w w' : World} {B : Nat} {v : Value} {l : List (Int × Bool)} (h : BitsI w B v l) (hb : Below B w w') : BitsI w' B v l := by
 obtain ⟨a, cap, e, hc, h⟩ := h
 refine ⟨a, cap, e, hc, ?_⟩
 rcases h with h | ⟨r, o, e2, hr, hcell⟩
 · exact .inl h
 · exact .inr ⟨r, o, e2, hr, fun j x hx => ⟨(hb.cell (p := ⟨r, o + 2 * j, none⟩) hr).trans (hcell j x hx).1, (hb.cell (p := ⟨r, o + 2 * j + 1, none⟩) hr).trans (hcell j x hx).2⟩⟩
theorem BitsI.wide {w : World} {B C : Nat} {v : Value} {l : List (Int × Bool)} (h : BitsI w B v l) (hb : B ≤ C) : BitsI w C v l := by
 obtain ⟨a, cap, e, hc, h⟩ := h
 refine ⟨a, cap, e, hc, ?_⟩
 rcases h with h | ⟨r, o, e2, hr, hcell⟩
 · exact .inl h
 · exact .inr ⟨r, o, e2, Nat.lt_of_lt_of_le hr hb, hcell⟩
def bitC (l : List (Int × Bool)) : List Value := l.flatMap fun x => [.int .i64 x.1, .bool x.2]
theorem bitC_snoc (l : List (Int × Bool)) (x : Int × Bool) : bitC (l ++ [x]) = bitC l ++ [.int .i64 x.1, .bool x.2] := by simp [bitC]
theorem bitC_at : ∀ (l : List (Int × Bool)) (j : Nat) (x : Int × Bool), l[j]? = some x → (bitC l)[2 * j]? = some (.int .i64 x.1) ∧ (bitC l)[2 * j + 1]? = some (.bool x.2)
 | [], j, x, h => by simp at h
 | y :: l, 0, x, h => by
   have e : y = x := by simpa using h
   subst e
   exact ⟨rfl, rfl⟩
 | y :: l, j + 1, x, h => by
   have h2 := bitC_at l j x (by simpa using h)
   show (Value.int .i64 y.1 :: Value.bool y.2 :: bitC l)[2 * (j + 1)]? = _ ∧ (Value.int .i64 y.1 :: Value.bool y.2 :: bitC l)[2 * (j + 1) + 1]? = _
   rw [show 2 * (j + 1) = 2 * j + 1 + 1 by omega, List.getElem?_cons_succ, List.getElem?_cons_succ, List.getElem?_cons_succ, List.getElem?_cons_succ]
   exact h2
theorem own_bits {w : World} {base e : Nat} {v : Value} {l : List (Int × Bool)} (h : w.ownsRow base e 2 v l.length (bitC l)) : BitsI w w.heap.size v l := by
 have h0 := h
 obtain ⟨_, ⟨rfl, hn⟩ | ⟨g, cap, cur, rfl, hg, hb, hc, _⟩⟩ := h
 · exact ⟨none, 0, by rw [hn], by omega, .inl (List.length_eq_zero_iff.1 hn)⟩
 · refine ⟨_, cap, rfl, hc, .inr ⟨g, 0, rfl, (h0.lt g rfl).2, fun j x hx => ?_⟩⟩
   have hj := (List.getElem?_eq_some_iff.1 hx).1
   rw [Nat.zero_add, h0.cellAt (2 * j) (by omega), h0.cellAt (2 * j + 1) (by omega)]
   exact bitC_at l j x hx
def tokV (t : Tok) : Value := .agg #[.int .i64 t.b, .int .i64 t.m, .int .i64 t.f]
def tokSize (m : Int) : Int := if m = 0 then 1 else m
def tokC (l : List Tok) : List Value := l.flatMap fun x => [.int .i64 x.b, .int .i64 x.m, .int .i64 x.f]
theorem tokC_snoc (l : List Tok) (x : Tok) : tokC (l ++ [x]) = tokC l ++ [.int .i64 x.b, .int .i64 x.m, .int .i64 x.f] := by simp [tokC]
theorem tokC_at : ∀ (l : List Tok) (j : Nat) (x : Tok), l[j]? = some x → (tokC l)[3 * j]? = some (.int .i64 x.b) ∧ (tokC l)[3 * j + 1]? = some (.int .i64 x.m) ∧ (tokC l)[3 * j + 2]? = some (.int .i64 x.f)
 | [], j, x, h => by simp at h
 | y :: l, 0, x, h => by
   have e : y = x := by simpa using h
   subst e
   exact ⟨rfl, rfl, rfl⟩
 | y :: l, j + 1, x, h => by
   have h2 := tokC_at l j x (by simpa using h)
   show (Value.int .i64 y.b :: Value.int .i64 y.m :: Value.int .i64 y.f :: tokC l)[3 * (j + 1)]? = _ ∧ (Value.int .i64 y.b :: Value.int .i64 y.m :: Value.int .i64 y.f :: tokC l)[3 * (j + 1) + 1]? = _ ∧ (Value.int .i64 y.b :: Value.int .i64 y.m :: Value.int .i64 y.f :: tokC l)[3 * (j + 1) + 2]? = _
   rw [show 3 * (j + 1) = 3 * j + 1 + 1 + 1 by omega, show 3 * j + 1 + 1 + 1 + 1 = (3 * j + 1) + 1 + 1 + 1 by omega, show 3 * j + 1 + 1 + 1 + 2 = (3 * j + 2) + 1 + 1 + 1 by omega]
   simp only [List.getElem?_cons_succ]
   exact h2
def TokI (w : World) (B : Nat) (v : Value) (l : List Tok) : Prop :=
 ∃ a cap, v = .slice a l.length cap ∧ l.length ≤ cap ∧ (l = [] ∨ ∃ r o, a = some ⟨r, o, none⟩ ∧ r < B ∧ ∀ j x, l[j]? = some x → w.cell? ⟨r, o + 3 * j, none⟩ = some (.int .i64 x.b) ∧ w.cell? ⟨r, o + 3 * j + 1, none⟩ = some (.int .i64 x.m) ∧ w.cell? ⟨r, o + 3 * j + 2, none⟩ = some (.int .i64 x.f))
theorem own_toks {w : World} {base e : Nat} {v : Value} {l : List Tok} (h : w.ownsRow base e 3 v l.length (tokC l)) : TokI w w.heap.size v l := by
 have h0 := h
 obtain ⟨_, ⟨rfl, hn⟩ | ⟨g, cap, cur, rfl, hg, hb, hc, _⟩⟩ := h
 · exact ⟨none, 0, by rw [hn], by omega, .inl (List.length_eq_zero_iff.1 hn)⟩
 · refine ⟨_, cap, rfl, hc, .inr ⟨g, 0, rfl, (h0.lt g rfl).2, fun j x hx => ?_⟩⟩
   have hj := (List.getElem?_eq_some_iff.1 hx).1
   rw [Nat.zero_add, h0.cellAt (3 * j) (by omega), h0.cellAt (3 * j + 1) (by omega), h0.cellAt (3 * j + 2) (by omega)]
   exact tokC_at l j x hx
theorem TokI.below {w w' : World} {B : Nat} {v : Value} {l : List Tok} (h : TokI w B v l) (hb : Below B w w') : TokI w' B v l := by
 obtain ⟨a, cap, e, hc, h⟩ := h
 refine ⟨a, cap, e, hc, ?_⟩
 rcases h with h | ⟨r, o, e2, hr, hcell⟩
 · exact .inl h
 · exact .inr ⟨r, o, e2, hr, fun j x hx => ⟨(hb.cell (p := ⟨r, o + 3 * j, none⟩) hr).trans (hcell j x hx).1, (hb.cell (p := ⟨r, o + 3 * j + 1, none⟩) hr).trans (hcell j x hx).2.1, (hb.cell (p := ⟨r, o + 3 * j + 2, none⟩) hr).trans (hcell j x hx).2.2⟩⟩
theorem TokI.wide {w : World} {B C : Nat} {v : Value} {l : List Tok} (h : TokI w B v l) (hb : B ≤ C) : TokI w C v l := by
 obtain ⟨a, cap, e, hc, h⟩ := h
 refine ⟨a, cap, e, hc, ?_⟩
 rcases h with h | ⟨r, o, e2, hr, hcell⟩
 · exact .inl h
 · exact .inr ⟨r, o, e2, Nat.lt_of_lt_of_le hr hb, hcell⟩
theorem tri_cells (w : World) (x y z : Value) (t n : Nat) (hn : w.heap.size = n) : ∀ (j : Nat) (u : Value), [x, y, z][j]? = some u → (w.alloc (.cells #[x, y, z] t)).cell? ((⟨n, 0, none⟩ : Addr).add j) = some u := by
 subst hn; exact World.news_of_block (heap_alloc_new w (.cells #[x, y, z] t))
theorem tri_one (x y z : Int) : ∀ u ∈ [Value.int .i64 x, Value.int .i64 y, Value.int .i64 z], u.oneCell' = true := by intro u hu; simp at hu; rcases hu with rfl | rfl | rfl <;> rfl
theorem Tryz.infoBitP : (Tryz.prog.info? 122).map (fun i => (i.zero, i.size, i.bytes)) = some (some (.agg #[.int .i64 0, .bool false]), 2, 16) := by kernel_rfl
def toI (x : Nat × Bool) : Int × Bool := ((x.1 : Int), x.2)
theorem cells2 (w : World) (x y : Value) (t n : Nat) (hn : w.heap.size = n) : ∀ (j : Nat) (u : Value), [x, y][j]? = some u → (w.alloc (.cells #[x, y] t)).cell? ((⟨n, 0, none⟩ : Addr).add j) = some u := by
 subst hn; exact World.news_of_block (heap_alloc_new w (.cells #[x, y] t))
theorem cells2_one (x : Int) (y : Bool) : ∀ u ∈ [Value.int .i64 x, Value.bool y], u.oneCell' = true := by intro u hu; simp at hu; rcases hu with rfl | rfl <;> rfl
theorem wraps_i62 (n : Int) (h₀ : 0 ≤ n) (h₁ : n < 2 ^ 62) : IntKind.i64.wrap n = n := by rw [IntKind.wrap_i64]; omega
theorem bit_q (n k : Nat) (h : n < 1048576) : bits .and .i64 ((n : Int) / 2 ^ k) 1 = ((n / 2 ^ k % 2 : Nat) : Int) := by
 have e : (n : Int) / 2 ^ k = ((n / 2 ^ k : Nat) : Int) := by simp
 have hle : n / 2 ^ k ≤ n := Nat.div_le_self _ _
 rw [e]
 generalize n / 2 ^ k = q at *
 have h2 := bits_mask .i64 62 (by decide) wraps_i62 1 (by decide) (q : Int) (by omega) (by omega)
 have e1 : ((2 : Int) ^ 1 - 1) = 1 := rfl
 rw [e1] at h2
 rw [h2]
 simp
set_option maxRecDepth 100000 in
set_option maxHeartbeats 800000 in
theorem spec_tree (B n many base : Nat) (v : Value) (l : List (Int × Bool)) (w : World) (hn : n < 1048576) (hm : many ≤ 10) (hb : base ≤ 400) (hl : l.length ≤ 100000) (hB : B ≤ w.heap.size) (hown : w.ownsRow B 122 2 v l.length (bitC l)) :
 Calls Tryz.prog 126 #[v, .int .i64 (n : Int), .int .i64 (many : Int), .int .i64 (base : Int)] w fun e w' => ∃ v', e = .returned v' ∧ w'.ownsRow B 122 2 v' (l ++ (tree n many base).map toI).length (bitC (l ++ (tree n many base).map toI)) ∧ w.grownBy w' v.ownBlock ∧ (∀ z, v'.ownBlock = some z → v.ownBlock = some z ∨ w.heap.size ≤ z) := by
 obtain ⟨i0, hi, hz0, hz1, hz2⟩ := info_parts Tryz.infoBitP
 obtain ⟨K, hK⟩ : ∃ K, K = l ++ (tree n many base).map toI := ⟨_, rfl⟩
 rw [← hK]
 have HKK := hide hK
 have HO := hide hown
 clear hown hK
 go_enter Tryz.func126, Tryz.ntmps126
 go_wp2_with fail
 go_loopw [0, 9, 10] (fun lv nd i wx => ∃ (r node : Nat) (k : List (Int × Bool)), r ≤ many ∧ node < 2 ^ (many - r + 1) ∧ i = .int .i64 ((r : Int) - 1) ∧ nd = .int .i64 (node : Nat) ∧ k.length + r = l.length + many ∧ wx.ownsRow B 122 2 lv k.length (bitC k) ∧ Hid (k ++ (treeG n base r node).map toI = K) ∧ Hid (w.grownBy wx v.ownBlock) ∧ Hid (∀ z, lv.ownBlock = some z → v.ownBlock = some z ∨ w.heap.size ≤ z)) (fun _ _ i _ => (intOf i + 1).toNat)
 case atStart => exact ⟨many, 1, l, Nat.le_refl _, by rw [Nat.sub_self]; decide, by go_num, rfl, rfl, HO.out, HKK.out.symm, World.grownBy.refl _ _, fun z hz => .inl hz⟩
 case round =>
  clear HO
  obtain ⟨r, node, k, hr, hnd, rfl, rfl, hkl, hown, hk, hbl, hzz⟩ := hrel
  have hnode : node < 2048 := Nat.lt_of_lt_of_le hnd (Nat.le_trans (Nat.pow_le_pow_right (by omega) (show many - r + 1 ≤ 11 by omega)) (by decide))
  by_cases hr0 : 0 < r
  · obtain ⟨s, hs⟩ : ∃ s, s = r - 1 := ⟨_, rfl⟩
    have es : (r : Int) - 1 = (s : Int) := by omega
    rw [es]
    have hs0 : (0 : Int) ≤ (s : Int) := by omega
    have hs10 : (s : Int) ≤ 9 := by omega
    have hnode' : (node : Int) < 2048 := by omega
    have hbq := bit_q n s hn
    obtain ⟨t, ht⟩ : ∃ t, t = n / 2 ^ s % 2 := ⟨_, rfl⟩
    rw [← ht] at hbq
    obtain ⟨bit, hbit⟩ : ∃ b, b = bitAt n s := ⟨_, rfl⟩
    have hbt : ((t : Int) == 1) = bit := by
     rw [hbit, bitAt, ← ht]
     by_cases h1 : t = 1
     · rw [h1]; rfl
     · rw [decide_eq_false h1, beq_eq_false_iff_ne]; omega
    obtain ⟨c, hc⟩ : ∃ c, c = base + node := ⟨_, rfl⟩
    have s1 : (base : Int) + (node : Int) = (c : Int) := by omega
    have hr1 : r - 1 = s := hs.symm
    have HK := hide (show (k ++ [((c : Int), bit)]) ++ (treeG n base s (2 * node + bN bit)).map toI = K by
     rw [← hk.out, show r = s + 1 by omega, hc, hbit, List.append_assoc]; rfl)
    have HND := hide (show 2 * node + bN bit < 2 ^ (many - s + 1) by
     have := bN_le bit
     rw [show many - s + 1 = (many - r + 1) + 1 by omega, Nat.pow_succ]; omega)
    have HS := hide (And.intro hs hr)
    have hws := hbl.out.size
    have hkb : k.length ≤ 100010 := by omega
    have HKL := hide hkl
    clear ht hbit hc hk hs es hnd hkl
    go_wp2_with (at_builtin; refine wpList_append_lies _ rfl _ _ 129 rfl B 122 i0 (.agg #[.int .i64 0, .bool false]) 2 16 Tryz.underlying129 hi hz0 hz1 hz2 rfl (by omega) u0 k.length (bitC k) rfl (hown.alloc _) ⟨wr.heap.size, 0, none⟩ 1 1 [.int .i64 (c : Int), .bool bit] rfl rfl (cells2 _ _ _ _ _ rfl) (cells2_one _ _) (by omega) (by unfold maxLen; omega) (by omega) (by simp; omega) (wr.heap.size + 1) (by simp) ?_)
    intro g' cap' w9 hown' hg' hat' _
    have R1 : w9.ownsRow B 122 2 (.slice (some ⟨g', 0, none⟩) (k.length + 1) cap') (k ++ [((c : Int), bit)]).length (bitC (k ++ [((c : Int), bit)])) := by
     rw [bitC_snoc, List.length_append]; exact hown'
    have R2 := hide (show w.grownBy w9 v.ownBlock from ⟨hg'.os.trans hbl.out.os, hg'.tape.trans hbl.out.tape, hg'.output.trans hbl.out.output, Nat.le_trans hbl.out.size (Nat.le_trans (by simp) hg'.size), fun j hj hne => (hg'.block j (by simp; omega) (fun e => by
     rcases hzz.out j e.symm with h | h
     · exact hne h.symm
     · omega)).trans ((Below.heap_alloc _ _ j (by omega)).trans (hbl.out.block j hj hne))⟩)
    have R3 := hide (show ∀ z, (Value.slice (some ⟨g', 0, none⟩) (k.length + 1) cap').ownBlock = some z → v.ownBlock = some z ∨ w.heap.size ≤ z from fun z hz => by
     have e1 : g' = z := by simpa [Value.ownBlock] using hz
     rcases hat' with h | h
     · exact hzz.out z (by rw [h, e1])
     · exact .inr (by omega))
    clear hown' hg' hown hbl hat' hzz
    cases bit with
    | true =>
      go_wp2_with fail
      go_roundw
      case rel => exact ⟨s, 2 * node + 1, k ++ [((c : Int), true)], by have := HS.out; omega, HND.out, by go_num, congrArg _ (by omega), by have := HKL.out; have := HS.out; simp; omega, R1, HK, R2, R3⟩
      case measure => simp [intOf]
    | false =>
      go_wp2_with fail
      go_roundw
      case rel => exact ⟨s, 2 * node, k ++ [((c : Int), false)], by have := HS.out; omega, HND.out, by go_num, congrArg _ (by omega), by have := HKL.out; have := HS.out; simp; omega, R1, HK, R2, R3⟩
      case measure => simp [intOf]
  · have hr1 : r = 0 := by omega
    have hlt : ¬ (0 : Int) ≤ (r : Int) - 1 := by omega
    have e := hk.out
    rw [hr1] at e
    have e2 : k = K := by rw [← e]; simp [treeG]
    have HO := hide (show wr.ownsRow B 122 2 u0 K.length (bitC K) by rw [← e2]; exact hown)
    clear hown e e2 hk hr1
    go_wp2_with fail
    go_ret
    exact ⟨_, rfl, HO.out, hbl.out, hzz.out⟩
theorem toksBits_snoc (l : List Tok) (x : Tok) : toksBits (l ++ [x]) = toksBits l ++ tokBits x := by simp [toksBits]
theorem tokOk_two (x : Tok) (h : tokOk x = true) : (x.f = 0 ∧ 0 ≤ x.b ∧ x.b ≤ 255) ∨ (x.f ≠ 0 ∧ 3 ≤ x.m ∧ x.m ≤ 66 ∧ 1 ≤ x.f ∧ x.f ≤ 1024) := by
 unfold tokOk at h
 split at h
 · rename_i h2
   have := of_decide_eq_true h
   exact .inl ⟨h2.2, this.1, this.2⟩
 · have := of_decide_eq_true h
   exact .inr ⟨by omega, this.2⟩
set_option maxRecDepth 100000 in
set_option maxHeartbeats 1600000 in
theorem spec_tokBits (v : Value) (l : List Tok) (w : World) (hlen : l.length ≤ 4000) (hok : ∀ x ∈ l, tokOk x = true) (hb : TokI w w.heap.size v l) :
 Calls Tryz.prog 94 #[v] w fun e w' => ∃ v', e = .returned v' ∧ w'.ownsRow w.heap.size 122 2 v' ((toksBits l).map toI).length (bitC ((toksBits l).map toI)) ∧ Below w.heap.size w w' := by
 obtain ⟨i0, hi, hz0, hz1, hz2⟩ := info_parts Tryz.infoBitP
 obtain ⟨a, cap, rfl, hcap, htoks⟩ := hb
 have HT := hide htoks
 have HOK := hide hok
 clear htoks hok
 have hcap' : (l.length : Int) ≤ (cap : Int) := by omega
 obtain ⟨K, hK⟩ : ∃ K, K = (toksBits l).map toI := ⟨_, rfl⟩
 rw [← hK]
 have HK := hide hK
 clear hK
 have hown0 := (show (w.alloc (.cells #[] 122)).ownsRow w.heap.size 122 2 (.slice (some ⟨w.heap.size, 0, none⟩) 0 0) 0 [] by
  have h := World.ownsRow_made (e := 122) (size := 2) (base := w.heap.size) w #[] 0 (Nat.le_refl _) (by decide) (by simp)
  simpa using h)
 have hb0 := hide ((Below.refl w.heap.size w).alloc (Nat.le_refl _) (.cells #[] 122))
 go_enter Tryz.func94, Tryz.ntmps94
 go_wp2_with fail
 generalize w.alloc (.cells #[] 122) = W0 at *
 go_loopw [3, 4] (fun bv i wx => ∃ (k : Nat) (b : List (Int × Bool)), k ≤ l.length ∧ i = .int .i64 k ∧ wx.ownsRow w.heap.size 122 2 bv b.length (bitC b) ∧ b.length ≤ 17 * k ∧ Hid (b = (toksBits (l.take k)).map toI) ∧ Hid (Below w.heap.size w wx)) (fun _ i _ => l.length - (intOf i).toNat)
 case atStart => exact ⟨0, [], by omega, rfl, hown0, Nat.zero_le _, rfl, hb0⟩
 case round =>
  clear hown0 hb0
  obtain ⟨k, b, hk, rfl, hown, hbl17, hbe, hbl⟩ := hrel
  by_cases hlt : k < l.length
  · have hlt' : (k : Int) < (l.length : Int) := by omega
    obtain ⟨x, hx⟩ : ∃ x, l[k]? = some x := ⟨_, List.getElem?_eq_getElem hlt⟩
    obtain h0 | ⟨r, o, rfl, hr, hcells⟩ := HT.out
    · rw [h0] at hlt; simp at hlt
    obtain ⟨x1, x2, x3⟩ := hcells k x hx
    obtain ⟨q, hq⟩ : ∃ q, q = o + 3 * k := ⟨_, rfl⟩
    rw [← hq] at x1 x2 x3
    have y1 := (hbl.out.cell (p := ⟨r, q, none⟩) hr).trans x1
    have y2 := (hbl.out.cell (p := ⟨r, q + 1, none⟩) hr).trans x2
    have y3 := (hbl.out.cell (p := ⟨r, q + 2, none⟩) hr).trans x3
    have y3' : wr.cell? ⟨r, q + 1 + 1, none⟩ = some (.int .i64 x.f) := y3
    have n1 : o + 3 * k = q := hq.symm
    have n2 : o + k * 3 = q := by omega
    have hcs := tokOk_two x (HOK.out x (List.mem_of_getElem? hx))
    have HBT := hide (show (toksBits (l.take (k + 1))).map toI = b ++ (tokBits x).map toI by
     rw [hbe.out, List.take_succ_eq_append_getElem hlt]
     rw [List.getElem?_eq_getElem hlt] at hx
     rw [Option.some.inj hx, toksBits_snoc, List.map_append])
    have hws := hbl.out.size
    have HOWN := hide hown
    clear hcells hx x1 x2 x3 hq hown hbe
    obtain ⟨xb, xm, xf⟩ := x
    simp only at y1 y2 y3 y3' hcs
    have c0 : (wr.alloc (.cells #[.int .i64 xb, .int .i64 xm, .int .i64 xf] 80)).cell? ⟨wr.heap.size, 0, none⟩ = some (.int .i64 xb) := by simp
    have c1 : (wr.alloc (.cells #[.int .i64 xb, .int .i64 xm, .int .i64 xf] 80)).cell? ⟨wr.heap.size, 1, none⟩ = some (.int .i64 xm) := by simp
    have c2 : (wr.alloc (.cells #[.int .i64 xb, .int .i64 xm, .int .i64 xf] 80)).cell? ⟨wr.heap.size, 2, none⟩ = some (.int .i64 xf) := by simp
    have OA := HOWN.out.alloc (.cells #[.int .i64 xb, .int .i64 xm, .int .i64 xf] 80)
    have BA := hide (hbl.out.alloc hws (.cells #[.int .i64 xb, .int .i64 xm, .int .i64 xf] 80))
    have hzn : ∀ z, u3.ownBlock = some z → z < wr.heap.size := fun z hz => (HOWN.out.lt z hz).2
    have HZN := hide hzn
    clear HOWN hbl hzn
    rcases hcs with ⟨hf, hb0, hb1⟩ | ⟨hf, hm3, hm66, hf1, hf1024⟩
    · obtain ⟨y, rfl⟩ := Int.eq_ofNat_of_zero_le hb0
      have df : (xf == 0) = true := by rw [hf]; rfl
      have HB2 := hide (show (tokBits ⟨(y : Int), xm, xf⟩).map toI = ((0 : Int), false) :: (tree y 8 16).map toI by
       unfold tokBits
       rw [if_pos (show xf = 0 from hf)]; rfl)
      have dg : decide (0 < xf) = false := decide_eq_false (by omega)
      clear hf
      go_wp2_with (at_builtin; refine wpList_append_lies _ rfl _ _ 129 rfl w.heap.size 122 i0 (.agg #[.int .i64 0, .bool false]) 2 16 Tryz.underlying129 hi hz0 hz1 hz2 rfl (by omega) u3 b.length (bitC b) rfl (OA.alloc _) ⟨wr.heap.size + 1, 0, none⟩ 1 1 [.int .i64 0, .bool false] rfl rfl (cells2 _ _ _ _ _ (by simp)) (cells2_one _ _) (by omega) (by unfold maxLen; omega) (by omega) (by simp; omega) (wr.heap.size + 1 + 1) (by simp) ?_)
      intro g' cap' w5 hown' hg' hat' _
      have O5 : w5.ownsRow w.heap.size 122 2 (.slice (some ⟨g', 0, none⟩) (b.length + 1) cap') (b ++ [((0 : Int), false)]).length (bitC (b ++ [((0 : Int), false)])) := by
       rw [bitC_snoc, List.length_append]; exact hown'
      have B5 := hide ((BA.out.alloc (by simp; omega) _).grown hg' (by simp; omega) (fun x hx => (OA.lt x hx).1))
      have hzg : u3.ownBlock ≠ some wr.heap.size := fun e => by have := HZN.out _ e; omega
      have hcz : ∀ i v, (wr.alloc (.cells #[.int .i64 (y : Int), .int .i64 xm, .int .i64 xf] 80)).cell? ⟨wr.heap.size, i, none⟩ = some v → w5.cell? ⟨wr.heap.size, i, none⟩ = some v := fun i v h =>
       hg'.cell (a := ⟨wr.heap.size, i, none⟩) ((((Below.refl (wr.heap.size + 1) (wr.alloc (.cells #[.int .i64 (y : Int), .int .i64 xm, .int .i64 xf] 80))).alloc (by simp) _).cell (p := ⟨wr.heap.size, i, none⟩) (by show wr.heap.size < wr.heap.size + 1; omega)).trans h) (fun e => hzg e.symm)
      have d0 := hcz 0 _ c0
      have d1 := hcz 1 _ c1
      have d2 := hcz 2 _ c2
      have z5 : wr.heap.size + 2 ≤ w5.heap.size := by have := hg'.size; simp at this; omega
      have hg'z : g' ≠ wr.heap.size := by
       rcases hat' with h | h
       · intro e; exact hzg (by rw [h, e])
       · omega
      have O5' := hide O5
      clear hown' hg' hat' O5 hcz OA BA c0 c1 c2 y1 y2 y3 y3' n1 n2
      have ST := hide (spec_tree w.heap.size y 8 16 _ (b ++ [((0 : Int), false)]) w5 (by omega) (by omega) (by omega) (by simp; omega) (by have := B5.out.size; omega) O5'.out)
      clear HZN hzg
      go_wp2_with fail
      refine ST.out.mono ?_
      rintro e w6 ⟨v6, rfl, own6, hb6, _⟩
      have B6 := hide (B5.out.grown hb6 (by have := B5.out.size; omega) (fun x hx => (O5'.out.lt x hx).1))
      have e6 : (b ++ [((0 : Int), false)]) ++ (tree y 8 16).map toI = (toksBits (l.take (k + 1))).map toI := by rw [HBT.out, HB2.out]; simp
      have hl6 : ((b ++ [((0 : Int), false)]) ++ (tree y 8 16).map toI).length ≤ 17 * (k + 1) := by
       rw [List.length_append, List.length_append, List.length_map, tree, treeG_len]
       show b.length + 1 + 8 ≤ _; omega
      generalize (b ++ [((0 : Int), false)]) ++ (tree y 8 16).map toI = b6 at *
      have E6 := hide e6
      clear hb6 B5 ST e6 O5' HBT HB2
      go_wp2_with fail
      go_roundw
      case rel => exact ⟨k + 1, b6, by omega, by go_num, own6, hl6, E6, B6⟩
      case measure => simp [intOf]; omega
    · obtain ⟨m, rfl⟩ := Int.eq_ofNat_of_zero_le (show (0 : Int) ≤ xm by omega)
      obtain ⟨f, rfl⟩ := Int.eq_ofNat_of_zero_le (show (0 : Int) ≤ xf by omega)
      have df : ((f : Int) == 0) = false := by rw [beq_eq_false_iff_ne]; exact hf
      have HB2 := hide (show (tokBits ⟨xb, (m : Int), (f : Int)⟩).map toI = ((0 : Int), true) :: ((tree (m - 3) 6 300).map toI ++ (tree (f - 1) 10 400).map toI) by
       unfold tokBits
       rw [if_neg (show ¬ (f : Int) = 0 from hf)]
       show ((0, true) :: (tree ((m : Int) - 3).toNat 6 300 ++ tree ((f : Int) - 1).toNat 10 400)).map toI = _
       rw [show ((m : Int) - 3).toNat = m - 3 by omega, show ((f : Int) - 1).toNat = f - 1 by omega, List.map_cons, List.map_append]; rfl)
      have dg : decide (0 < (f : Int)) = true := decide_eq_true (by omega)
      have dgN : decide (0 < f) = true := decide_eq_true (by omega)
      clear hf
      go_wp2_with (at_builtin; refine wpList_append_lies _ rfl _ _ 129 rfl w.heap.size 122 i0 (.agg #[.int .i64 0, .bool false]) 2 16 Tryz.underlying129 hi hz0 hz1 hz2 rfl (by omega) u3 b.length (bitC b) rfl (OA.alloc _) ⟨wr.heap.size + 1, 0, none⟩ 1 1 [.int .i64 0, .bool true] rfl rfl (cells2 _ _ _ _ _ (by simp)) (cells2_one _ _) (by omega) (by unfold maxLen; omega) (by omega) (by simp; omega) (wr.heap.size + 1 + 1) (by simp) ?_)
      intro g' cap' w5 hown' hg' hat' _
      have O5 : w5.ownsRow w.heap.size 122 2 (.slice (some ⟨g', 0, none⟩) (b.length + 1) cap') (b ++ [((0 : Int), true)]).length (bitC (b ++ [((0 : Int), true)])) := by
       rw [bitC_snoc, List.length_append]; exact hown'
      have B5 := hide ((BA.out.alloc (by simp; omega) _).grown hg' (by simp; omega) (fun x hx => (OA.lt x hx).1))
      have hzg : u3.ownBlock ≠ some wr.heap.size := fun e => by have := HZN.out _ e; omega
      have hcz : ∀ i v, (wr.alloc (.cells #[.int .i64 xb, .int .i64 (m : Int), .int .i64 (f : Int)] 80)).cell? ⟨wr.heap.size, i, none⟩ = some v → w5.cell? ⟨wr.heap.size, i, none⟩ = some v := fun i v h =>
       hg'.cell (a := ⟨wr.heap.size, i, none⟩) ((((Below.refl (wr.heap.size + 1) (wr.alloc (.cells #[.int .i64 xb, .int .i64 (m : Int), .int .i64 (f : Int)] 80))).alloc (by simp) _).cell (p := ⟨wr.heap.size, i, none⟩) (by show wr.heap.size < wr.heap.size + 1; omega)).trans h) (fun e => hzg e.symm)
      have d0 := hcz 0 _ c0
      have d1 := hcz 1 _ c1
      have d2 := hcz 2 _ c2
      have z5 : wr.heap.size + 2 ≤ w5.heap.size := by have := hg'.size; simp at this; omega
      have hg'z : g' ≠ wr.heap.size := by
       rcases hat' with h | h
       · intro e; exact hzg (by rw [h, e])
       · omega
      have O5' := hide O5
      clear hown' hg' hat' O5 hcz OA BA c0 c1 c2 y1 y2 y3 y3' n1 n2
      obtain ⟨m3, em3⟩ : ∃ x, x = m - 3 := ⟨_, rfl⟩
      obtain ⟨f1, ef1⟩ : ∃ x, x = f - 1 := ⟨_, rfl⟩
      have s1 : (m : Int) - 3 = (m3 : Int) := by omega
      have s2 : (f : Int) - 1 = (f1 : Int) := by omega
      have ST := hide (spec_tree w.heap.size m3 6 300 _ (b ++ [((0 : Int), true)]) w5 (by omega) (by omega) (by omega) (by simp; omega) (by have := B5.out.size; omega) O5'.out)
      rw [← em3, ← ef1] at HB2
      clear HZN hzg em3 ef1
      go_wp2_with fail
      refine ST.out.mono ?_
      rintro e w6 ⟨v6, rfl, own6, hb6, hz6⟩
      have B6 := hide (B5.out.grown hb6 (by have := B5.out.size; omega) (fun x hx => (O5'.out.lt x hx).1))
      have z6 := hb6.size
      have e2' : w6.cell? ⟨wr.heap.size, 2, none⟩ = some (.int .i64 (f : Int)) := hb6.cell (a := ⟨wr.heap.size, 2, none⟩) d2 (fun e => hg'z (by have := Option.some.inj e; exact this.symm))
      have ST2 := hide (spec_tree w.heap.size f1 10 400 v6 ((b ++ [((0 : Int), true)]) ++ (tree m3 6 300).map toI) w6 (by omega) (by omega) (by omega) (by rw [List.length_append, List.length_append, List.length_map, tree, treeG_len]; show b.length + 1 + 6 ≤ _; omega) (by have := B5.out.size; omega) own6)
      have O6 := hide own6
      clear hb6 B5 ST O5' d0 d1 d2 own6 hz6
      go_wp2_with fail
      refine ST2.out.mono ?_
      rintro e w7 ⟨v7, rfl, own7, hb7, _⟩
      have B7 := hide (B6.out.grown hb7 (by have := B6.out.size; omega) (fun x hx => (O6.out.lt x hx).1))
      have e7 : ((b ++ [((0 : Int), true)]) ++ (tree m3 6 300).map toI) ++ (tree f1 10 400).map toI = (toksBits (l.take (k + 1))).map toI := by rw [HBT.out, HB2.out]; simp
      have hl7 : (((b ++ [((0 : Int), true)]) ++ (tree m3 6 300).map toI) ++ (tree f1 10 400).map toI).length ≤ 17 * (k + 1) := by
       rw [List.length_append, List.length_append, List.length_append, List.length_map, List.length_map, tree, tree, treeG_len, treeG_len]
       show b.length + 1 + 6 + 10 ≤ _; omega
      generalize ((b ++ [((0 : Int), true)]) ++ (tree m3 6 300).map toI) ++ (tree f1 10 400).map toI = b7 at *
      have E7 := hide e7
      clear hb7 B6 ST2 e7 O6 HBT HB2
      go_wp2_with fail
      go_roundw
      case rel => exact ⟨k + 1, b7, by omega, by go_num, own7, hl7, E7, B7⟩
      case measure => simp [intOf]; omega
  · have hlt' : ¬ (k : Int) < (l.length : Int) := by omega
    have e := hbe.out
    rw [List.take_of_length_le (by omega), ← HK.out] at e
    have HO := hide (show wr.ownsRow w.heap.size 122 2 u3 K.length (bitC K) by rw [← e]; exact hown)
    clear hown e hbe
    go_wp2_with fail
    go_ret
    exact ⟨_, rfl, HO.out, hbl.out⟩
end Go.Proofs.YtconcnndghmdfaaGreatDoor
