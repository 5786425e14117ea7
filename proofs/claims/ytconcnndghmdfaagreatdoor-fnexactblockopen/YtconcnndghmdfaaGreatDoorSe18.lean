/- Put together: ReadNum, GetNumS, PackV. -/
import Derived.Test.YtconcnndghmdfaaGreatDoorRows
import Derived.Test.YtconcnndghmdfaaGreatDoorSe1
import Derived.Test.YtconcnndghmdfaaGreatDoorSe17
import Derived.WalkKit
import Derived.Handy
import Derived.Test.YtconcnndghmdfaaGreatDoorSe14
import Derived.Deep.RegionWith
import Derived.BigRegion
namespace Go.Proofs.YtconcnndghmdfaaGreatDoor
open Go.RowKit

/-- The last byte C of a number, and what was read with it. -/
def LastOk (s : ByteArray) (q k u : Nat) (V C : Int) : Prop :=
  ∃ h : q + k < s.size, C = (s[q + k].toNat : Int) ∧ (s[q + k].toNat < 128 ∨ k = 9) ∧ u < 2 ^ (7 * k) ∧ dec k u (s.data.toList.drop (q + k)) = decAt s q ∧
    ((k = 9 → s[q + k].toNat ≤ 1) → V = ((u + s[q + k].toNat % 128 * 2 ^ (7 * k) : Nat) : Int))

theorem u8_and127' (x : Int) (h₀ : 0 ≤ x) (h₁ : x < 256) : bits .and .u8 x 127 = x % 128 := bits_mask .u8 8 (by decide) wraps_u8 7 (by decide) x h₀ h₁
theorem or_zero (x : Int) (h₀ : 0 ≤ x) (h₁ : x < 128) : bits .or .u64 0 x = x := by
  obtain ⟨n, rfl⟩ := Int.eq_ofNat_of_zero_le h₀
  have := bits_or_u64_nat 0 n (by omega) (by omega)
  rw [Nat.zero_or] at this; exact this

/-- What holds where the run jumps: to 'wrong' (0), to 'more' (1), to 'last' (2). -/
def numJ (s : ByteArray) (q : Nat) (w : World) : Nat → Act → World → Prop
  | 0, a, w' => w' = w ∧ ∃ (C : Int) (u1 u8 u9 u10 u11 u12 u13 u14 u15 u16 u17 u18 u19 u20 u21 u22 u23 u24 u25 u26 u27 u28 u29 u30 u31 u32 u33 u34 u35 u36 u37 u38 u39 u40 u41 u42 u43 u44 u45 u46 u47 u48 u49 u50 u51 u52 u53 u54 u55 u56 u57 u58 u59 u60 u61 u62 : Value), a = { tmps := #[.string s, u1, undef, undef, .int .i64 0, .int .i64 0, .nilIface, .int .i64 C, u8, u9, u10, u11, u12, u13, u14, u15, u16, u17, u18, u19, u20, u21, u22, u23, u24, u25, u26, u27, u28, u29, u30, u31, u32, u33, u34, u35, u36, u37, u38, u39, u40, u41, u42, u43, u44, u45, u46, u47, u48, u49, u50, u51, u52, u53, u54, u55, u56, u57, u58, u59, u60, u61, u62], defers := [] } ∧ (C = 3 ∨ C = 4) ∧ decAt s q = (C.toNat, 0, 0)
  | 1, a, w' => w' = w ∧ ∃ (k u : Nat) (X V S : Int) (u9 u11 u12 u13 u14 u15 u16 u17 u18 u19 u20 u21 u22 u23 u24 u25 u26 u27 u28 u29 u30 u31 u32 u33 u34 u35 u36 u37 u38 u39 u40 u41 u42 u43 u44 u45 u46 u47 u48 u49 u50 u51 u52 u53 u54 u55 u56 u57 u58 u59 u60 u61 u62 : Value), a = { tmps := #[.string s, .int .i64 X, undef, undef, .int .i64 0, .int .i64 0, .nilIface, .int .i64 1, .int .u64 V, u9, .int .i64 S, u11, u12, u13, u14, u15, u16, u17, u18, u19, u20, u21, u22, u23, u24, u25, u26, u27, u28, u29, u30, u31, u32, u33, u34, u35, u36, u37, u38, u39, u40, u41, u42, u43, u44, u45, u46, u47, u48, u49, u50, u51, u52, u53, u54, u55, u56, u57, u58, u59, u60, u61, u62], defers := [] } ∧ k ≤ 9 ∧ X = (q : Int) + k ∧ V = u ∧ S = 7 * k ∧ u < 2 ^ (7 * k) ∧ dec k u (s.data.toList.drop (q + k)) = decAt s q
  | 2, a, w' => w' = w ∧ ∃ (k u : Nat) (X V S C : Int) (u11 u12 u13 u14 u15 u16 u17 u18 u19 u20 u21 u22 u23 u24 u25 u26 u27 u28 u29 u30 u31 u32 u33 u34 u35 u36 u37 u38 u39 u40 u41 u42 u43 u44 u45 u46 u47 u48 u49 u50 u51 u52 u53 u54 u55 u56 u57 u58 u59 u60 u61 u62 : Value), a = { tmps := #[.string s, .int .i64 X, undef, undef, .int .i64 0, .int .i64 0, .nilIface, .int .i64 1, .int .u64 V, .int .u8 C, .int .i64 S, u11, u12, u13, u14, u15, u16, u17, u18, u19, u20, u21, u22, u23, u24, u25, u26, u27, u28, u29, u30, u31, u32, u33, u34, u35, u36, u37, u38, u39, u40, u41, u42, u43, u44, u45, u46, u47, u48, u49, u50, u51, u52, u53, u54, u55, u56, u57, u58, u59, u60, u61, u62], defers := [] } ∧ k ≤ 9 ∧ X = (q : Int) + k + 1 ∧ S = 7 * k ∧ LastOk s q k u V C
  | _, _, _ => False
/-- A measure that each jump lowers. -/
def numM : Nat → Act → World → Nat
  | 1, a, _ => 100 - (intOf (a.tmps.getD 10 undef)).toNat
  | 2, _, _ => 1
  | _, _, _ => 0

/-- What readNum hands back, of what was read. -/
def numRet (q : Nat) (r : Nat × Nat × Nat) : Value :=
  if r.1 = 0 then .tuple #[.int .i64 (unfold r.2.1), .int .i64 ((q : Int) + r.2.2), .nilIface] else .tuple #[.int .i64 0, .int .i64 0, .iface 84 (.agg #[.int .i64 r.1])]

theorem numRet_bad (q c : Nat) (h : c ≠ 0) : numRet q (c, 0, 0) = .tuple #[.int .i64 0, .int .i64 0, .iface 84 (.agg #[.int .i64 c])] := by unfold numRet; rw [if_neg h]
theorem numRet_good (q u k : Nat) : numRet q (0, u, k) = .tuple #[.int .i64 (unfold u), .int .i64 ((q : Int) + k), .nilIface] := by unfold numRet; rw [if_pos rfl]

set_option maxRecDepth 100000 in
set_option maxHeartbeats 1600000 in
theorem impl_readNum (s : ByteArray) (q : Nat) (w : World) (hs : s.size ≤ 20000) (hq : (q : Int) ≤ 9223372036854775807) :
    Calls Tryz.prog 99 #[.string s, .int .i64 q] w fun e w' => e = .returned (numRet q (decAt s q)) ∧ w = w' := by
  go_enter Tryz.func99, Tryz.ntmps99
  go_wp2_with fail
  refine wp_scope_labels (numJ s q w) numM ?_ ?_
  · go_wp2_with fail
    go_step3
    by_cases hlt : q < s.size
    · have hlt' : (q : Int) < (s.size : Int) := by omega
      have hb : (s[q].toNat : Int) ≤ 255 := by have := s[q].toNat_lt; omega
      have hm := u8_and127' (s[q].toNat : Int) (by omega) (by omega)
      have hz := or_zero ((s[q].toNat : Int) % 128) (by omega) (by omega)
      by_cases hc : s[q].toNat < 128
      · have hc' : (s[q].toNat : Int) < 128 := by omega
        go_wp2_with fail
        go_step3
        refine ⟨rfl, 0, 0, _, _, _, _, _, _, _, _, _, _, _, _, _, _, _, _, _, _, _, _, _, _, _, _, _, _, _, _, _, _, _, _, _, _, _, _, _, _, _, _, _, _, _, _, _, _, _, _, _, _, _, _, _, _, _, _, rfl, by omega, by omega, by omega, hlt, rfl, .inl hc, by simp, rfl, fun _ => ?_⟩
        simp
      · have hc' : 128 ≤ (s[q].toNat : Int) := by omega
        go_wp2_with fail
        go_step3
        refine ⟨rfl, 1, 0 + s[q].toNat % 128 * 2 ^ (7 * 0), _, _, _, _, _, _, _, _, _, _, _, _, _, _, _, _, _, _, _, _, _, _, _, _, _, _, _, _, _, _, _, _, _, _, _, _, _, _, _, _, _, _, _, _, _, _, _, _, _, _, _, _, _, _, _, _, rfl, by omega, by omega, ?_, by omega, next_lt 0 _ 0 (by simp), dec_more s q 0 0 _ hlt (by omega) (by simp; omega) rfl⟩
        simp
    · have hlt' : (s.size : Int) ≤ (q : Int) := by omega
      go_wp2_with fail
      go_step3
      exact ⟨rfl, _, _, _, _, _, _, _, _, _, _, _, _, _, _, _, _, _, _, _, _, _, _, _, _, _, _, _, _, _, _, _, _, _, _, _, _, _, _, _, _, _, _, _, _, _, _, _, _, _, _, _, _, _, _, _, _, _, rfl, .inr rfl, dec_short s q 0 0 _ (by omega) rfl⟩
  · intro l a w' hJ
    match l, hJ with
    | 1, hJ =>
      obtain ⟨rfl, k, u, X, V, S, u9, u11, u12, u13, u14, u15, u16, u17, u18, u19, u20, u21, u22, u23, u24, u25, u26, u27, u28, u29, u30, u31, u32, u33, u34, u35, u36, u37, u38, u39, u40, u41, u42, u43, u44, u45, u46, u47, u48, u49, u50, u51, u52, u53, u54, u55, u56, u57, u58, u59, u60, u61, u62, rfl, hk, rfl, rfl, rfl, hu, hd⟩ := id hJ
      clear hJ
      refine ⟨_, rfl, ?_⟩
      by_cases hlt : q + k < s.size
      · have hlt' : (q : Int) + k < (s.size : Int) := by omega
        have hb : (s[q + k].toNat : Int) ≤ 255 := by have := s[q + k].toNat_lt; omega
        have hm := u8_and127' (s[q + k].toNat : Int) (by omega) (by omega)
        have HD := hide hd
        have HU := hide hu
        clear hd hu
        rcases (show s[q + k].toNat < 128 ∨ (128 ≤ s[q + k].toNat ∧ k = 9) ∨ (128 ≤ s[q + k].toNat ∧ k < 9) from by omega) with hc | ⟨hc, h9⟩ | ⟨hc, h9⟩
        · have hc' : (s[q + k].toNat : Int) < 128 := by omega
          go_wp2_with fail
          go_step3
          refine ⟨⟨rfl, k, u, _, _, _, _, _, _, _, _, _, _, _, _, _, _, _, _, _, _, _, _, _, _, _, _, _, _, _, _, _, _, _, _, _, _, _, _, _, _, _, _, _, _, _, _, _, _, _, _, _, _, _, _, _, _, _, _, rfl, by omega, by omega, by omega, hlt, rfl, .inl hc, HU.out, HD.out, fun h => or_step u _ k hk HU.out h⟩, ?_⟩
          simp [numM, intOf]; omega
        · have hc' : 128 ≤ (s[q + k].toNat : Int) := by omega
          have h9' : ((7 * (k : Int)) == 63) = true := by simp; omega
          have H9 := hide h9
          clear h9
          go_wp2_with fail
          go_step3
          refine ⟨⟨rfl, k, u, _, _, _, _, _, _, _, _, _, _, _, _, _, _, _, _, _, _, _, _, _, _, _, _, _, _, _, _, _, _, _, _, _, _, _, _, _, _, _, _, _, _, _, _, _, _, _, _, _, _, _, _, _, _, _, _, rfl, by omega, by omega, by omega, hlt, rfl, .inr H9.out, HU.out, HD.out, fun h => or_step u _ k hk HU.out h⟩, ?_⟩
          simp [numM, intOf]; omega
        · have hc' : 128 ≤ (s[q + k].toNat : Int) := by omega
          have h9' : ((7 * (k : Int)) == 63) = false := by simp; omega
          go_wp2_with fail
          go_step3
          refine ⟨⟨rfl, k + 1, u + s[q + k].toNat % 128 * 2 ^ (7 * k), _, _, _, _, _, _, _, _, _, _, _, _, _, _, _, _, _, _, _, _, _, _, _, _, _, _, _, _, _, _, _, _, _, _, _, _, _, _, _, _, _, _, _, _, _, _, _, _, _, _, _, _, _, _, _, _, rfl, by omega, by omega, or_step u _ k hk HU.out (by omega), by omega, next_lt u _ k HU.out, dec_more s q k u _ hlt h9 hc HD.out⟩, ?_⟩
          simp [numM, intOf]; omega
      · have hlt' : (s.size : Int) ≤ (q : Int) + k := by omega
        have HD := hide hd
        clear hd hu
        go_wp2_with fail
        go_step3
        refine ⟨⟨rfl, _, _, _, _, _, _, _, _, _, _, _, _, _, _, _, _, _, _, _, _, _, _, _, _, _, _, _, _, _, _, _, _, _, _, _, _, _, _, _, _, _, _, _, _, _, _, _, _, _, _, _, _, _, _, _, _, _, rfl, .inr rfl, dec_short s q k u _ (by omega) HD.out⟩, ?_⟩
        simp [numM, intOf]; omega
    | 0, hJ =>
      obtain ⟨rfl, C, u1, u8, u9, u10, u11, u12, u13, u14, u15, u16, u17, u18, u19, u20, u21, u22, u23, u24, u25, u26, u27, u28, u29, u30, u31, u32, u33, u34, u35, u36, u37, u38, u39, u40, u41, u42, u43, u44, u45, u46, u47, u48, u49, u50, u51, u52, u53, u54, u55, u56, u57, u58, u59, u60, u61, u62, rfl, hC, hd⟩ := id hJ
      clear hJ
      refine ⟨_, rfl, ?_⟩
      rcases hC with rfl | rfl
      all_goals
        have HD := hide hd
        clear hd
        go_wp2_with fail
        rw [jumps_ret]
        go_ret3
        exact ⟨by rw [HD.out]; rfl, rfl⟩
    | 2, hJ =>
      obtain ⟨rfl, k, u, X, V, S, C, u11, u12, u13, u14, u15, u16, u17, u18, u19, u20, u21, u22, u23, u24, u25, u26, u27, u28, u29, u30, u31, u32, u33, u34, u35, u36, u37, u38, u39, u40, u41, u42, u43, u44, u45, u46, u47, u48, u49, u50, u51, u52, u53, u54, u55, u56, u57, u58, u59, u60, u61, u62, rfl, hk, rfl, rfl, hok⟩ := id hJ
      clear hJ
      refine ⟨_, rfl, ?_⟩
      obtain ⟨hlt, rfl, hc, hu, hd, hV⟩ := hok
      rcases (show (k = 9 ∧ 1 < s[q + k].toNat) ∨ (k = 9 ∧ s[q + k].toNat = 0) ∨ (k = 9 ∧ s[q + k].toNat = 1) ∨ (0 < k ∧ k < 9 ∧ s[q + k].toNat = 0) ∨ (0 < k ∧ k < 9 ∧ 1 ≤ s[q + k].toNat) ∨ k = 0 from by omega) with h | h | h | h | h | h
      case' inl => have h63 : ((7 * (k : Int)) == 63) = true := by simp; omega
      case' inl => have h1 : 1 < (s[q + k].toNat : Int) := by omega
      case' inl => have HB := hide (dec_bad s q k u _ hlt (by omega) hd)
      case' inr.inl => have h63 : ((7 * (k : Int)) == 63) = true := by simp; omega
      case' inr.inl => have h1 : ((s[q + k].toNat : Int) == 0) = true := by simp; omega
      case' inr.inl => have h2 : (s[q + k].toNat : Int) ≤ 1 := by omega
      case' inr.inl => have h3 : 0 < 7 * (k : Int) := by omega
      case' inr.inl => have HB := hide (dec_bad s q k u _ hlt (by omega) hd)
      case' inr.inr.inl => have h63 : ((7 * (k : Int)) == 63) = true := by simp; omega
      case' inr.inr.inl => have h1 : ((s[q + k].toNat : Int) == 0) = false := by simp; omega
      case' inr.inr.inl => have h2 : (s[q + k].toNat : Int) ≤ 1 := by omega
      case' inr.inr.inl => have h3 : 0 < 7 * (k : Int) := by omega
      case' inr.inr.inr.inl => have h63 : ((7 * (k : Int)) == 63) = false := by simp; omega
      case' inr.inr.inr.inl => have h1 : ((s[q + k].toNat : Int) == 0) = true := by simp; omega
      case' inr.inr.inr.inl => have h3 : 0 < 7 * (k : Int) := by omega
      case' inr.inr.inr.inl => have HB := hide (dec_bad s q k u _ hlt (by omega) hd)
      case' inr.inr.inr.inr.inl => have h63 : ((7 * (k : Int)) == 63) = false := by simp; omega
      case' inr.inr.inr.inr.inl => have h1 : ((s[q + k].toNat : Int) == 0) = false := by simp; omega
      case' inr.inr.inr.inr.inl => have h3 : 0 < 7 * (k : Int) := by omega
      case' inr.inr.inr.inr.inr => have h63 : ((7 * (k : Int)) == 63) = false := by simp; omega
      case' inr.inr.inr.inr.inr => have h3 : 7 * (k : Int) ≤ 0 := by omega
      case' inr.inr.inl | inr.inr.inr.inr.inl | inr.inr.inr.inr.inr =>
        have hU := next_fits u s[q + k].toNat k hk hu (by omega)
        obtain rfl := hV (by omega)
        have hG := dec_good s q k u _ hlt (by omega) (by omega) (by omega) hd
        generalize u + s[q + k].toNat % 128 * 2 ^ (7 * k) = U at *
        have hx := unfold_xor U hU
        have ha := u64_and1 (U : Int) (by omega) (by omega)
        have HG := hide hG
        clear hG hd hu hV hc
      case inl | inr.inl | inr.inr.inr.inl =>
        have H := hide h
        clear h hd hu hV hc
        go_wp2_with fail
        go_step3
        refine ⟨⟨rfl, _, _, _, _, _, _, _, _, _, _, _, _, _, _, _, _, _, _, _, _, _, _, _, _, _, _, _, _, _, _, _, _, _, _, _, _, _, _, _, _, _, _, _, _, _, _, _, _, _, _, _, _, _, _, _, _, _, rfl, .inl rfl, HB.out⟩, ?_⟩
        simp [numM]
      all_goals
        have H := hide h
        clear h
        go_wp2_with fail
        rw [jumps_ret]
        go_ret3
        exact ⟨by rw [HG.out, numRet_good]; simp; omega, rfl⟩
end Go.Proofs.YtconcnndghmdfaaGreatDoor
namespace Go.Proofs.YtconcnndghmdfaaGreatDoor
open Go.RowKit

theorem shl_step (u c k : Nat) (hk : k ≤ 9) (hu : u < 2 ^ (7 * k)) (h9 : k = 9 → c ≤ 1) :
    IntKind.u64.wrap (((c : Int) % 128) * 2 ^ (7 * k)) = ((c % 128 * 2 ^ (7 * k) : Nat) : Int) ∧ u + c % 128 * 2 ^ (7 * k) < 18446744073709551616 := by
  have hf := next_fits u c k hk hu h9
  have e : ((c : Int) % 128) * 2 ^ (7 * k) = ((c % 128 * 2 ^ (7 * k) : Nat) : Int) := by
    rw [Int.natCast_mul, Int.natCast_pow, Int.natCast_emod]; rfl
  exact ⟨by rw [e, wrap_u64_in _ (by omega) (by omega)], hf⟩

set_option maxRecDepth 100000 in
set_option maxHeartbeats 400000 in
theorem spec_getNum_long (s : ByteArray) (p : Int) (w : World) (hs : s.size ≤ 9223372036854775807) (h : 20000 < s.size) :
    Calls Tryz.prog 68 #[.string s, .int .i64 p] w fun e w' => e = .returned (numOut 0 0 2) ∧ Below w.heap.size w w' := by
  go_enter Tryz.func68, Tryz.ntmps68
  go_wp2_with fail
  go_returns
  exact ⟨rfl, by go_grown⟩
set_option maxRecDepth 100000 in
set_option maxHeartbeats 400000 in
theorem spec_getNum_neg (s : ByteArray) (p : Int) (w : World) (hs : s.size ≤ 20000) (h : p < 0) :
    Calls Tryz.prog 68 #[.string s, .int .i64 p] w fun e w' => e = .returned (numOut 0 0 1) ∧ Below w.heap.size w w' := by
  go_enter Tryz.func68, Tryz.ntmps68
  go_wp2_with fail
  go_returns
  exact ⟨rfl, by go_grown⟩

/-- What GetNum tells, of what was read. -/
def numAns (q : Nat) (r : Nat × Nat × Nat) : Value := if r.1 = 0 then numOut (unfold r.2.1) ((q : Int) + r.2.2) 0 else numOut 0 0 r.1

theorem num_odd (q u M k : Nat) (h : (u + M) % 2 = 1) : Ending.returned (.agg #[.int .i64 (-(((u : Int) + M) / 2) - 1), .int .i64 ((q : Int) + k + 1), .int .i64 0]) = .returned (numAns q (0, u + M, k + 1)) := by
  unfold numAns numOut unfold
  rw [if_pos rfl, if_pos h]
  have e1 : -(((u : Int) + M) / 2) - 1 = -(((u + M) / 2 : Nat) : Int) - 1 := by omega
  have e2 : (q : Int) + k + 1 = (q : Int) + ((k + 1 : Nat) : Int) := by omega
  rw [e1, e2]
theorem num_even (q u M k : Nat) (h : (u + M) % 2 = 0) : Ending.returned (.agg #[.int .i64 (((u : Int) + M) / 2), .int .i64 ((q : Int) + k + 1), .int .i64 0]) = .returned (numAns q (0, u + M, k + 1)) := by
  unfold numAns numOut unfold
  have h' : ¬ ((0, u + M, k + 1) : Nat × Nat × Nat).2.1 % 2 = 1 := by show ¬ (u + M) % 2 = 1; omega
  rw [if_pos rfl, if_neg h']
  have e1 : (((u : Int) + M) / 2) = (((u + M) / 2 : Nat) : Int) := by omega
  have e2 : (q : Int) + k + 1 = (q : Int) + ((k + 1 : Nat) : Int) := by omega
  rw [e1, e2]

set_option maxRecDepth 100000 in
set_option maxHeartbeats 1600000 in
theorem spec_getNum (s : ByteArray) (q : Nat) (w : World) (hs : s.size ≤ 20000) (hq : (q : Int) ≤ 9223372036854775807) :
    Calls Tryz.prog 68 #[.string s, .int .i64 q] w fun e w' => e = .returned (numAns q (decAt s q)) ∧ Below w.heap.size w w' := by
  go_enter Tryz.func68, Tryz.ntmps68
  go_wp2_with fail
  go_loop [5, 6] (fun v i => ∃ (k u : Nat), k ≤ 9 ∧ i = .int .i64 k ∧ v = .int .u64 u ∧ Hid (u < 2 ^ (7 * k)) ∧ Hid (dec k u (s.data.toList.drop (q + k)) = decAt s q)) (fun _ i => 10 - (intOf i).toNat)
  case atStart => exact ⟨0, 0, by omega, rfl, rfl, by simp [Hid], rfl⟩
  case round =>
    obtain ⟨k, u, hk, rfl, rfl, hu, hd⟩ := hrel
    by_cases hlt : q + k < s.size
    · have hlt' : (q : Int) < (s.size : Int) - k := by omega
      have hlt2 : (q : Int) + k < (s.size : Int) := by omega
      have hb : (s[q + k].toNat : Int) ≤ 255 := by have := s[q + k].toNat_lt; omega
      by_cases h91 : k = 9 ∧ 1 < s[q + k].toNat
      · have h9' : ((k : Int) == 9) = true := by simp; omega
        have hc' : 1 < (s[q + k].toNat : Int) := by omega
        have HB := hide (dec_bad s q k u _ hlt (.inl h91) hd.out)
        clear h91 hd hu
        go_wp2_with fail
        go_returns
        exact ⟨by rw [HB.out]; rfl, by go_grown⟩
      · obtain ⟨hsh, hfit⟩ := shl_step u s[q + k].toNat k hk hu.out (by omega)
        have hnx := hide (next_lt u s[q + k].toNat k hu.out)
        have hmo := fun h1 h2 => dec_more s q k u _ hlt h1 h2 hd.out
        have hgo := fun h1 h2 h3 => dec_good s q k u _ hlt h1 h2 h3 hd.out
        have hba := fun h1 => dec_bad s q k u _ hlt h1 hd.out
        generalize hM : s[q + k].toNat % 128 * 2 ^ (7 * k) = M at *
        clear hM hd hu
        have hfit' : (u : Int) + M ≤ 18446744073709551615 := by omega
        clear hfit
        rcases (show (k = 9 ∧ s[q + k].toNat = 0) ∨ (k = 9 ∧ s[q + k].toNat = 1) ∨ (k < 9 ∧ 128 ≤ s[q + k].toNat) ∨ (k < 9 ∧ 0 < k ∧ s[q + k].toNat = 0) ∨ (k = 0 ∧ s[q + k].toNat = 0) ∨ (k < 9 ∧ 0 < s[q + k].toNat ∧ s[q + k].toNat < 128) from by omega) with h | h | h | h | h | h
        · have h9' : ((k : Int) == 9) = true := by simp; omega
          have hc1 : (s[q + k].toNat : Int) ≤ 1 := by omega
          have hc0 : ((s[q + k].toNat : Int) == 0) = true := by simp; omega
          have hk0 : 0 < (k : Int) := by omega
          have hc8 : (s[q + k].toNat : Int) < 128 := by omega
          have HB := hide (hba (by omega))
          clear hmo hgo hba h hnx
          go_wp2_with fail
          go_returns
          exact ⟨by rw [HB.out]; rfl, by go_grown⟩
        · have h9' : ((k : Int) == 9) = true := by simp; omega
          have hc1 : (s[q + k].toNat : Int) ≤ 1 := by omega
          have hc0 : ((s[q + k].toNat : Int) == 0) = false := by simp; omega
          have hc8 : (s[q + k].toNat : Int) < 128 := by omega
          have HG := hide (hgo (by omega) (by omega) (by omega))
          clear hmo hgo hba h hnx
          rcases (show (u + M) % 2 = 1 ∨ (u + M) % 2 = 0 from by omega) with hp | hp
          · have hp' : (((u : Int) + M) % 2 == 1) = true := by simp; omega
            have HP := hide hp
            clear hp
            go_wp2_with fail
            go_returns
            exact ⟨by rw [HG.out]; exact num_odd q u M k HP.out, by go_grown⟩
          · have hp' : (((u : Int) + M) % 2 == 1) = false := by simp; omega
            have HP := hide hp
            clear hp
            go_wp2_with fail
            go_returns
            exact ⟨by rw [HG.out]; exact num_even q u M k HP.out, by go_grown⟩
        · have h9' : ((k : Int) == 9) = false := by simp; omega
          have hc8 : 128 ≤ (s[q + k].toNat : Int) := by omega
          have HM := hide (hmo h.1 h.2)
          have hk9 : k < 9 := h.1
          clear hmo hgo hba h
          go_wp2_with fail
          go_round
          case rel => exact ⟨k + 1, u + M, by omega, by go_num, by go_num, hnx, HM⟩
          case measure => simp [intOf]; omega
        · have h9' : ((k : Int) == 9) = false := by simp; omega
          have hc0 : ((s[q + k].toNat : Int) == 0) = true := by simp; omega
          have hk0 : 0 < (k : Int) := by omega
          have hc8 : (s[q + k].toNat : Int) < 128 := by omega
          have HB := hide (hba (by omega))
          clear hmo hgo hba h hnx
          go_wp2_with fail
          go_returns
          exact ⟨by rw [HB.out]; rfl, by go_grown⟩
        · have h9' : ((k : Int) == 9) = false := by simp; omega
          have hc0 : ((s[q + k].toNat : Int) == 0) = true := by simp; omega
          have hk0 : (k : Int) ≤ 0 := by omega
          have hc8 : (s[q + k].toNat : Int) < 128 := by omega
          have HG := hide (hgo (by omega) (by omega) (by omega))
          clear hmo hgo hba h hnx
          rcases (show (u + M) % 2 = 1 ∨ (u + M) % 2 = 0 from by omega) with hp | hp
          · have hp' : (((u : Int) + M) % 2 == 1) = true := by simp; omega
            have HP := hide hp
            clear hp
            go_wp2_with fail
            go_returns
            exact ⟨by rw [HG.out]; exact num_odd q u M k HP.out, by go_grown⟩
          · have hp' : (((u : Int) + M) % 2 == 1) = false := by simp; omega
            have HP := hide hp
            clear hp
            go_wp2_with fail
            go_returns
            exact ⟨by rw [HG.out]; exact num_even q u M k HP.out, by go_grown⟩
        · have h9' : ((k : Int) == 9) = false := by simp; omega
          have hc0 : ((s[q + k].toNat : Int) == 0) = false := by simp; omega
          have hc8 : (s[q + k].toNat : Int) < 128 := by omega
          have HG := hide (hgo (by omega) (by omega) (by omega))
          clear hmo hgo hba h hnx
          rcases (show (u + M) % 2 = 1 ∨ (u + M) % 2 = 0 from by omega) with hp | hp
          · have hp' : (((u : Int) + M) % 2 == 1) = true := by simp; omega
            have HP := hide hp
            clear hp
            go_wp2_with fail
            go_returns
            exact ⟨by rw [HG.out]; exact num_odd q u M k HP.out, by go_grown⟩
          · have hp' : (((u : Int) + M) % 2 == 1) = false := by simp; omega
            have HP := hide hp
            clear hp
            go_wp2_with fail
            go_returns
            exact ⟨by rw [HG.out]; exact num_even q u M k HP.out, by go_grown⟩
    · have hlt' : (s.size : Int) - k ≤ (q : Int) := by omega
      have HB := hide (dec_short s q k u _ (by omega) hd.out)
      clear hd hu
      go_wp2_with fail
      go_returns
      exact ⟨by rw [HB.out]; rfl, by go_grown⟩
theorem numAns_good (q U m : Nat) : numAns q (0, U, m) = numOut (unfold U) ((q : Int) + m) 0 := by unfold numAns; rw [if_pos rfl]
theorem numAns_bad (q c : Nat) (h : c ≠ 0) : numAns q (c, 0, 0) = numOut 0 0 c := by unfold numAns; rw [if_neg h]
end Go.Proofs.YtconcnndghmdfaaGreatDoor
namespace Go.Proofs.YtconcnndghmdfaaGreatDoor
open Go.RowKit
/-- A TextOut. -/
def textO (t : ByteArray) (c : Int) : Value := .agg #[.string t, .int .i64 0, .int .i64 c]
/-- What Unpack answers behind a good number. -/
def unpN (s : ByteArray) (m N : Nat) : ByteArray × Int :=
  if (unpO (s.extract m s.size) N).2 = true then (if packB (unpO (s.extract m s.size) N).1 = s then ((unpO (s.extract m s.size) N).1, 0) else (⟨#[]⟩, 3)) else (⟨#[]⟩, 5)
/-- Unpack. -/
def unpackS (s : ByteArray) : ByteArray × Int :=
  if 20000 < s.size then (⟨#[]⟩, 2) else
  if (decAt s 0).1 = 0 then (if unfold (decAt s 0).2.1 < 0 ∨ 4000 < unfold (decAt s 0).2.1 then (⟨#[]⟩, 3) else unpN s (decAt s 0).2.2 (unfold (decAt s 0).2.1).toNat) else (⟨#[]⟩, 3)
theorem unpO_size (t : ByteArray) (many : Nat) (h : (unpO t many).2 = true) : (unpO t many).1.size = many := by
  unfold unpO at *
  cases e : unpackG (tbN t) many many (rc0, pv (tbN t) 4) [] with
  | none => rw [e] at h; cases h
  | some b => rw [e] at h; exact (size_mk b).trans (of_decide_eq_true h)
set_option maxRecDepth 100000 in
set_option maxHeartbeats 800000 in
theorem spec_unpack_long (s : ByteArray) (w : World) (hs : s.size ≤ 9223372036854775807) (h : 20000 < s.size) :
    Calls Tryz.prog 69 #[.string s] w fun e w' => e = .returned (textO ⟨#[]⟩ 2) ∧ Below w.heap.size w w' := by
  have h' : (20000 : Int) < (s.size : Int) := by omega
  go_enter Tryz.func69, Tryz.ntmps69
  go_wp2_with fail
  go_returns
  exact ⟨rfl, by go_grown⟩
set_option maxRecDepth 100000 in
set_option maxHeartbeats 800000 in
theorem spec_unpack_bad (s : ByteArray) (c : Nat) (w : World) (hs : s.size ≤ 20000) (hc : c ≠ 0) (hd : decAt s 0 = (c, 0, 0)) :
    Calls Tryz.prog 69 #[.string s] w fun e w' => e = .returned (textO ⟨#[]⟩ 3) ∧ Below w.heap.size w w' := by
  have h' : ¬ (20000 : Int) < (s.size : Int) := by omega
  have hc0 : ((c : Int) != 0) = true := by simp; omega
  have hc1 : ((c : Int) == 0) = false := by simp; omega
  have Hc := hide hc
  have Hd := hide hd
  clear hc hd
  go_enter Tryz.func69, Tryz.ntmps69
  go_wp2_with fail
  refine (spec_getNum s 0 _ hs (by omega)).mono ?_
  rintro e w1 ⟨rfl, hb⟩
  rw [unhide Hd, numAns_bad 0 c Hc.out]
  unfold numOut
  simp at hb
  have hs1 := hb.size
  simp at hs1
  obtain ⟨⟨c0, c1, c2⟩, hf⟩ := out_cells (hb.alloc hs1 (.cells #[.int .i64 0, .int .i64 0, .int .i64 c] 91)) (Nat.lt_succ_self _) (heap_alloc_new w _)
  obtain ⟨r0, r1, r2⟩ := out_read (.string ⟨#[]⟩) (.int .i64 0) (.int .i64 3) c0 c1 c2
  go_wp2_with fail
  exact bodyPost_ret (v := textO ⟨#[]⟩ 3) (by simp [results, Tryz.results69, go_sem, r0, r1, r2, textO]) rfl ⟨rfl, below_out' (hb.alloc hs1 _)⟩
set_option maxRecDepth 100000 in
set_option maxHeartbeats 800000 in
theorem spec_unpack_low (s : ByteArray) (U m : Nat) (n : Int) (w : World) (hs : s.size ≤ 20000) (hd : decAt s 0 = (0, U, m)) (hN : unfold U = n) (hn0 : n < 0) :
    Calls Tryz.prog 69 #[.string s] w fun e w' => e = .returned (textO ⟨#[]⟩ 3) ∧ Below w.heap.size w w' := by
  have h' : ¬ (20000 : Int) < (s.size : Int) := by omega
  have Hd := hide hd
  have HN := hide hN
  clear hd hN
  go_enter Tryz.func69, Tryz.ntmps69
  go_wp2_with fail
  refine (spec_getNum s 0 _ hs (by omega)).mono ?_
  rintro e w1 ⟨rfl, hb⟩
  rw [unhide Hd, numAns_good, unhide HN, show ((0 : Nat) : Int) + (m : Int) = (m : Int) by omega]
  unfold numOut
  simp at hb
  have hs1 := hb.size
  simp at hs1
  obtain ⟨⟨c0, c1, c2⟩, hf⟩ := out_cells (hb.alloc hs1 (.cells #[.int .i64 n, .int .i64 m, .int .i64 0] 91)) (Nat.lt_succ_self _) (heap_alloc_new w _)
  obtain ⟨r0, r1, r2⟩ := out_read (.string ⟨#[]⟩) (.int .i64 0) (.int .i64 3) c0 c1 c2
  go_wp2_with fail
  exact bodyPost_ret (v := textO ⟨#[]⟩ 3) (by simp [results, Tryz.results69, go_sem, r0, r1, r2, textO]) rfl ⟨rfl, below_out' (hb.alloc hs1 _)⟩
set_option maxRecDepth 100000 in
set_option maxHeartbeats 800000 in
theorem spec_unpack_high (s : ByteArray) (U m : Nat) (n : Int) (w : World) (hs : s.size ≤ 20000) (hd : decAt s 0 = (0, U, m)) (hN : unfold U = n) (hn0 : 4000 < n) :
    Calls Tryz.prog 69 #[.string s] w fun e w' => e = .returned (textO ⟨#[]⟩ 3) ∧ Below w.heap.size w w' := by
  have h' : ¬ (20000 : Int) < (s.size : Int) := by omega
  have Hd := hide hd
  have HN := hide hN
  clear hd hN
  go_enter Tryz.func69, Tryz.ntmps69
  go_wp2_with fail
  refine (spec_getNum s 0 _ hs (by omega)).mono ?_
  rintro e w1 ⟨rfl, hb⟩
  rw [unhide Hd, numAns_good, unhide HN, show ((0 : Nat) : Int) + (m : Int) = (m : Int) by omega]
  unfold numOut
  simp at hb
  have hs1 := hb.size
  simp at hs1
  obtain ⟨⟨c0, c1, c2⟩, hf⟩ := out_cells (hb.alloc hs1 (.cells #[.int .i64 n, .int .i64 m, .int .i64 0] 91)) (Nat.lt_succ_self _) (heap_alloc_new w _)
  obtain ⟨r0, r1, r2⟩ := out_read (.string ⟨#[]⟩) (.int .i64 0) (.int .i64 3) c0 c1 c2
  go_wp2_with fail
  exact bodyPost_ret (v := textO ⟨#[]⟩ 3) (by simp [results, Tryz.results69, go_sem, r0, r1, r2, textO]) rfl ⟨rfl, below_out' (hb.alloc hs1 _)⟩
set_option maxRecDepth 100000 in
set_option maxHeartbeats 1600000 in
theorem spec_unpack_good (s : ByteArray) (U m N : Nat) (w : World) (hs : s.size ≤ 20000) (hd : decAt s 0 = (0, U, m)) (hN : unfold U = (N : Int)) (hmS : m ≤ s.size) (hM : N ≤ 4000) :
    Calls Tryz.prog 69 #[.string s] w fun e w' => e = .returned (textO (unpN s m N).1 (unpN s m N).2) ∧ Below w.heap.size w w' := by
  have h' : ¬ (20000 : Int) < (s.size : Int) := by omega
  have Hd := hide hd
  have HN := hide hN
  clear hd hN
  go_enter Tryz.func69, Tryz.ntmps69
  go_wp2_with fail
  refine (spec_getNum s 0 _ hs (by omega)).mono ?_
  rintro e w1 ⟨rfl, hb⟩
  rw [unhide Hd, numAns_good, unhide HN, show ((0 : Nat) : Int) + (m : Int) = (m : Int) by omega]
  unfold numOut
  simp at hb
  have hs1 := hb.size
  simp at hs1
  have hB := hb.alloc hs1 (.cells #[.int .i64 N, .int .i64 m, .int .i64 0] 91)
  obtain ⟨⟨c0, c1, c2⟩, hf⟩ := out_cells hB (Nat.lt_succ_self _) (heap_alloc_new w _)
  go_wp2_with fail
  have hsl := fun W => run_rest (P := Tryz.prog) W 9 s m Tryz.underlying9 hmS
  have hrs : (s.extract m s.size).size ≤ 20000 := by simp; omega
  have SU := hide (fun W => spec_unpack0 (s.extract m s.size) N W hM hrs)
  have HP := hide (show unpN s m N = (if (unpO (s.extract m s.size) N).2 = true then (if packB (unpO (s.extract m s.size) N).1 = s then ((unpO (s.extract m s.size) N).1, 0) else (⟨#[]⟩, 3)) else (⟨#[]⟩, 5)) from rfl)
  have HZ := hide (unpO_size (s.extract m s.size) N)
  obtain ⟨T, hT⟩ : ∃ T, T = s.extract m s.size := ⟨_, rfl⟩
  rw [← hT] at hsl SU HP HZ
  obtain ⟨⟨X, ok⟩, hX⟩ : ∃ R, R = unpO T N := ⟨_, rfl⟩
  rw [← hX] at SU HP HZ
  simp only at SU HP HZ
  clear hT hX hrs
  cases ok with
  | false =>
    have HP1 := hide (show unpN s m N = (⟨#[]⟩, 5) by rw [HP.out]; rfl)
    clear HP HZ
    go_region_with (go_at_call 103; refine (SU.out _).mono ?_; rintro e w2 ⟨rfl, hb2⟩)
    all_goals (
      have hB2 := hB.drew.trans (hb2.mono (by simp; omega))
      obtain ⟨⟨d0, d1, d2⟩, hf2⟩ := out_cells hB2 (Nat.lt_succ_self _) (heap_alloc_new w _)
      obtain ⟨r0, r1, r2⟩ := out_read (.string ⟨#[]⟩) (.int .i64 0) (.int .i64 5) d0 d1 d2
      clear c0 c1 c2 hf hsl SU hb2
      go_wp2_with fail
      exact bodyPost_ret (v := textO ⟨#[]⟩ 5) (by simp [results, Tryz.results69, go_sem, r0, r1, r2, textO]) rfl ⟨by rw [HP1.out], below_out' hB2⟩)
  | true =>
    have hXs : X.size ≤ 4000 := by rw [HZ.out rfl]; exact hM
    have SP := hide (fun W => spec_pack0 X W hXs)
    by_cases hq : packB X = s
    · have HP1 := hide (show unpN s m N = (X, 0) by rw [HP.out, if_pos rfl, if_pos hq])
      have hq1 := str_eq hq
      obtain ⟨PX, hPX⟩ : ∃ PX, PX = packB X := ⟨_, rfl⟩
      rw [← hPX] at SP hq1
      clear HP HZ hq hPX
      go_region_with (go_at_call 103; refine (SU.out _).mono ?_; rintro e w2 ⟨rfl, hb2⟩)
      all_goals (
        have hB2 := hB.drew.trans (hb2.mono (by simp; omega))
        clear c0 c1 c2 hf hsl SU hb2
        go_wp2_with fail
        refine (SP.out _).mono ?_
        rintro e w3 ⟨rfl, hb3⟩
        have hz2 := hB2.size
        simp at hz2
        have hB3 := hB2.trans (hb3.mono hz2)
        obtain ⟨⟨d0, d1, d2⟩, hf2⟩ := out_cells hB3 (Nat.lt_succ_self _) (heap_alloc_new w _)
        obtain ⟨r0, r1, r2⟩ := out_read (.string X) (.int .i64 0) (.int .i64 0) d0 d1 d2
        clear hb3 SP
        go_wp2_with fail
        exact bodyPost_ret (v := textO X 0) (by simp [results, Tryz.results69, go_sem, r0, r1, r2, textO]) rfl ⟨by rw [HP1.out], below_out' hB3⟩)
    · have HP1 := hide (show unpN s m N = (⟨#[]⟩, 3) by rw [HP.out, if_pos rfl, if_neg hq])
      have hq1 := str_ne hq
      obtain ⟨PX, hPX⟩ : ∃ PX, PX = packB X := ⟨_, rfl⟩
      rw [← hPX] at SP hq1
      clear HP HZ hq hPX
      go_region_with (go_at_call 103; refine (SU.out _).mono ?_; rintro e w2 ⟨rfl, hb2⟩)
      all_goals (
        have hB2 := hB.drew.trans (hb2.mono (by simp; omega))
        clear c0 c1 c2 hf hsl SU hb2
        go_wp2_with fail
        refine (SP.out _).mono ?_
        rintro e w3 ⟨rfl, hb3⟩
        have hz2 := hB2.size
        simp at hz2
        have hB3 := hB2.trans (hb3.mono hz2)
        obtain ⟨⟨d0, d1, d2⟩, hf2⟩ := out_cells hB3 (Nat.lt_succ_self _) (heap_alloc_new w _)
        obtain ⟨r0, r1, r2⟩ := out_read (.string ⟨#[]⟩) (.int .i64 0) (.int .i64 3) d0 d1 d2
        clear hb3 SP
        go_wp2_with fail
        exact bodyPost_ret (v := textO ⟨#[]⟩ 3) (by simp [results, Tryz.results69, go_sem, r0, r1, r2, textO]) rfl ⟨by rw [HP1.out], below_out' hB3⟩)
theorem spec_unpack (s : ByteArray) (w : World) (hs : s.size ≤ 9223372036854775807) :
    Calls Tryz.prog 69 #[.string s] w fun e w' => e = .returned (textO (unpackS s).1 (unpackS s).2) ∧ Below w.heap.size w w' := by
  by_cases h : 20000 < s.size
  · have e : unpackS s = (⟨#[]⟩, 2) := if_pos h
    rw [e]; exact spec_unpack_long s w hs h
  · have h2 : s.size ≤ 20000 := by omega
    have hE := show unpackS s = _ from if_neg h
    rcases decAt_form s 0 with ⟨U, m, hd, hm⟩ | hd | hd
    · rw [hd] at hE
      simp only at hE
      by_cases h3 : unfold U < 0 ∨ 4000 < unfold U
      · rw [if_pos h3] at hE
        rw [hE]
        rcases h3 with h3 | h3
        · exact spec_unpack_low s U m _ w h2 hd rfl h3
        · exact spec_unpack_high s U m _ w h2 hd rfl h3
      · rw [if_neg h3] at hE
        rw [hE]
        exact spec_unpack_good s U m _ w h2 hd (by omega) (by omega) (by omega)
    · rw [hd] at hE
      rw [show unpackS s = (⟨#[]⟩, 3) from hE]
      exact spec_unpack_bad s 3 w h2 (by decide) hd
    · rw [hd] at hE
      rw [show unpackS s = (⟨#[]⟩, 3) from hE]
      exact spec_unpack_bad s 4 w h2 (by decide) hd
end Go.Proofs.YtconcnndghmdfaaGreatDoor
