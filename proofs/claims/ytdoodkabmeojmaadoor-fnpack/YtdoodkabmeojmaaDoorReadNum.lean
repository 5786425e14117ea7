/- The walk over the program's readNum: a loop of goto from state to state. -/
import Derived.Test.YtdoodkabmeojmaaDoorRows
import Derived.Test.YtdoodkabmeojmaaDoorOwn
import Derived.Test.YtdoodkabmeojmaaDoorLabels
import Derived.Test.YtdoodkabmeojmaaDoorDec
import Derived.WalkKit
namespace Go.Proofs.YtdoodkabmeojmaaDoor
open Go.RowKit

/-- The last byte C of a number, and what was read with it. -/
def LastOk (s : ByteArray) (q k u : Nat) (V C : Int) : Prop :=
  ∃ h : q + k < s.size, C = (s[q + k].toNat : Int) ∧ (s[q + k].toNat < 128 ∨ k = 9) ∧ u < 2 ^ (7 * k) ∧ dec k u (s.data.toList.drop (q + k)) = decAt s q ∧
    ((k = 9 → s[q + k].toNat ≤ 1) → V = ((u + s[q + k].toNat % 128 * 2 ^ (7 * k) : Nat) : Int))

theorem u8_and127' (x : Int) (h₀ : 0 ≤ x) (h₁ : x < 256) : bits .and .u8 x 127 = x % 128 := bits_mask .u8 8 (by decide) wraps_u8 7 (by decide) x h₀ h₁
theorem or_zero (x : Int) (h₀ : 0 ≤ x) (h₁ : x < 128) : bits .or .u64 0 x = x := by
  obtain ⟨n, rfl⟩ := Int.eq_ofNat_of_zero_le h₀
  have := bits_or_u64_nat 0 n (by omega) (by omega)
  rw [Nat.zero_or] at this; exact this

/-- What holds where the run jumps: to 'wrong' (0), to 'more' (1), to 'last' (2). -/
def numJ (s : ByteArray) (q : Nat) (w : World) : Nat → Act → World → Prop
  | 0, a, w' => w' = w ∧ ∃ (C : Int) (u1 u8 u9 u10 u11 u12 u13 u14 u15 u16 u17 u18 u19 u20 u21 u22 u23 u24 u25 u26 u27 u28 u29 u30 u31 u32 u33 u34 u35 u36 u37 u38 u39 u40 u41 u42 u43 u44 u45 u46 u47 u48 u49 u50 u51 u52 u53 u54 u55 u56 u57 u58 u59 u60 u61 u62 : Value), a = { tmps := #[.string s, u1, undef, undef, .int .i64 0, .int .i64 0, .nilIface, .int .i64 C, u8, u9, u10, u11, u12, u13, u14, u15, u16, u17, u18, u19, u20, u21, u22, u23, u24, u25, u26, u27, u28, u29, u30, u31, u32, u33, u34, u35, u36, u37, u38, u39, u40, u41, u42, u43, u44, u45, u46, u47, u48, u49, u50, u51, u52, u53, u54, u55, u56, u57, u58, u59, u60, u61, u62], defers := [] } ∧ (C = 3 ∨ C = 4) ∧ decAt s q = (C.toNat, 0, 0)
  | 1, a, w' => w' = w ∧ ∃ (k u : Nat) (X V S : Int) (u9 u11 u12 u13 u14 u15 u16 u17 u18 u19 u20 u21 u22 u23 u24 u25 u26 u27 u28 u29 u30 u31 u32 u33 u34 u35 u36 u37 u38 u39 u40 u41 u42 u43 u44 u45 u46 u47 u48 u49 u50 u51 u52 u53 u54 u55 u56 u57 u58 u59 u60 u61 u62 : Value), a = { tmps := #[.string s, .int .i64 X, undef, undef, .int .i64 0, .int .i64 0, .nilIface, .int .i64 1, .int .u64 V, u9, .int .i64 S, u11, u12, u13, u14, u15, u16, u17, u18, u19, u20, u21, u22, u23, u24, u25, u26, u27, u28, u29, u30, u31, u32, u33, u34, u35, u36, u37, u38, u39, u40, u41, u42, u43, u44, u45, u46, u47, u48, u49, u50, u51, u52, u53, u54, u55, u56, u57, u58, u59, u60, u61, u62], defers := [] } ∧ k ≤ 9 ∧ X = (q : Int) + k ∧ V = u ∧ S = 7 * k ∧ u < 2 ^ (7 * k) ∧ dec k u (s.data.toList.drop (q + k)) = decAt s q
  | 2, a, w' => w' = w ∧ ∃ (k u : Nat) (X V S C : Int) (u11 u12 u13 u14 u15 u16 u17 u18 u19 u20 u21 u22 u23 u24 u25 u26 u27 u28 u29 u30 u31 u32 u33 u34 u35 u36 u37 u38 u39 u40 u41 u42 u43 u44 u45 u46 u47 u48 u49 u50 u51 u52 u53 u54 u55 u56 u57 u58 u59 u60 u61 u62 : Value), a = { tmps := #[.string s, .int .i64 X, undef, undef, .int .i64 0, .int .i64 0, .nilIface, .int .i64 1, .int .u64 V, .int .u8 C, .int .i64 S, u11, u12, u13, u14, u15, u16, u17, u18, u19, u20, u21, u22, u23, u24, u25, u26, u27, u28, u29, u30, u31, u32, u33, u34, u35, u36, u37, u38, u39, u40, u41, u42, u43, u44, u45, u46, u47, u48, u49, u50, u51, u52, u53, u54, u55, u56, u57, u58, u59, u60, u61, u62], defers := [] } ∧ k ≤ 9 ∧ X = (q : Int) + k + 1 ∧ S = 7 * k ∧ LastOk s q k u V C
  | _, _, _ => False
/-- A measure that each jump lowers. -/
def numM : Nat → Act → World → Nat
  | 1, a, _ => 100 - (intOf (a.tmps.getD 10 undef)).toNat
  | 2, _, _ => 1
  | _, _, _ => 0

/-- What readNum hands back, of what was read. -/
def numRet (q : Nat) (r : Nat × Nat × Nat) : Value :=
  if r.1 = 0 then .tuple #[.int .i64 (unfold r.2.1), .int .i64 ((q : Int) + r.2.2), .nilIface] else .tuple #[.int .i64 0, .int .i64 0, .iface 87 (.agg #[.int .i64 r.1])]

theorem numRet_bad (q c : Nat) (h : c ≠ 0) : numRet q (c, 0, 0) = .tuple #[.int .i64 0, .int .i64 0, .iface 87 (.agg #[.int .i64 c])] := by unfold numRet; rw [if_neg h]
theorem numRet_good (q u k : Nat) : numRet q (0, u, k) = .tuple #[.int .i64 (unfold u), .int .i64 ((q : Int) + k), .nilIface] := by unfold numRet; rw [if_pos rfl]

set_option maxRecDepth 100000 in
set_option maxHeartbeats 1600000 in
theorem impl_readNum (s : ByteArray) (q : Nat) (w : World) (hs : s.size ≤ 20000) (hq : (q : Int) ≤ 9223372036854775807) :
    Calls Tryd.prog 44 #[.string s, .int .i64 q] w fun e w' => e = .returned (numRet q (decAt s q)) ∧ w = w' := by
  go_enter Tryd.func44, Tryd.ntmps44
  go_wp2_with fail
  refine wp_scope_labels (numJ s q w) numM ?_ ?_
  · go_wp2_with fail
    go_step3
    by_cases hlt : q < s.size
    · have hlt' : (q : Int) < (s.size : Int) := by omega
      have hb : (s[q].toNat : Int) ≤ 255 := by have := s[q].toNat_lt; omega
      have hm := u8_and127' (s[q].toNat : Int) (by omega) (by omega)
      have hz := or_zero ((s[q].toNat : Int) % 128) (by omega) (by omega)
      by_cases hc : s[q].toNat < 128
      · have hc' : (s[q].toNat : Int) < 128 := by omega
        go_wp2_with fail
        go_step3
        refine ⟨rfl, 0, 0, _, _, _, _, _, _, _, _, _, _, _, _, _, _, _, _, _, _, _, _, _, _, _, _, _, _, _, _, _, _, _, _, _, _, _, _, _, _, _, _, _, _, _, _, _, _, _, _, _, _, _, _, _, _, _, _, rfl, by omega, by omega, by omega, hlt, rfl, .inl hc, by simp, rfl, fun _ => ?_⟩
        simp
      · have hc' : 128 ≤ (s[q].toNat : Int) := by omega
        go_wp2_with fail
        go_step3
        refine ⟨rfl, 1, 0 + s[q].toNat % 128 * 2 ^ (7 * 0), _, _, _, _, _, _, _, _, _, _, _, _, _, _, _, _, _, _, _, _, _, _, _, _, _, _, _, _, _, _, _, _, _, _, _, _, _, _, _, _, _, _, _, _, _, _, _, _, _, _, _, _, _, _, _, _, rfl, by omega, by omega, ?_, by omega, next_lt 0 _ 0 (by simp), dec_more s q 0 0 _ hlt (by omega) (by simp; omega) rfl⟩
        simp
    · have hlt' : (s.size : Int) ≤ (q : Int) := by omega
      go_wp2_with fail
      go_step3
      exact ⟨rfl, _, _, _, _, _, _, _, _, _, _, _, _, _, _, _, _, _, _, _, _, _, _, _, _, _, _, _, _, _, _, _, _, _, _, _, _, _, _, _, _, _, _, _, _, _, _, _, _, _, _, _, _, _, _, _, _, _, rfl, .inr rfl, dec_short s q 0 0 _ (by omega) rfl⟩
  · intro l a w' hJ
    match l, hJ with
    | 1, hJ =>
      obtain ⟨rfl, k, u, X, V, S, u9, u11, u12, u13, u14, u15, u16, u17, u18, u19, u20, u21, u22, u23, u24, u25, u26, u27, u28, u29, u30, u31, u32, u33, u34, u35, u36, u37, u38, u39, u40, u41, u42, u43, u44, u45, u46, u47, u48, u49, u50, u51, u52, u53, u54, u55, u56, u57, u58, u59, u60, u61, u62, rfl, hk, rfl, rfl, rfl, hu, hd⟩ := id hJ
      clear hJ
      refine ⟨_, rfl, ?_⟩
      by_cases hlt : q + k < s.size
      · have hlt' : (q : Int) + k < (s.size : Int) := by omega
        have hb : (s[q + k].toNat : Int) ≤ 255 := by have := s[q + k].toNat_lt; omega
        have hm := u8_and127' (s[q + k].toNat : Int) (by omega) (by omega)
        have HD := hide hd
        have HU := hide hu
        clear hd hu
        rcases (show s[q + k].toNat < 128 ∨ (128 ≤ s[q + k].toNat ∧ k = 9) ∨ (128 ≤ s[q + k].toNat ∧ k < 9) from by omega) with hc | ⟨hc, h9⟩ | ⟨hc, h9⟩
        · have hc' : (s[q + k].toNat : Int) < 128 := by omega
          go_wp2_with fail
          go_step3
          refine ⟨⟨rfl, k, u, _, _, _, _, _, _, _, _, _, _, _, _, _, _, _, _, _, _, _, _, _, _, _, _, _, _, _, _, _, _, _, _, _, _, _, _, _, _, _, _, _, _, _, _, _, _, _, _, _, _, _, _, _, _, _, _, rfl, by omega, by omega, by omega, hlt, rfl, .inl hc, HU.out, HD.out, fun h => or_step u _ k hk HU.out h⟩, ?_⟩
          simp [numM, intOf]; omega
        · have hc' : 128 ≤ (s[q + k].toNat : Int) := by omega
          have h9' : ((7 * (k : Int)) == 63) = true := by simp; omega
          have H9 := hide h9
          clear h9
          go_wp2_with fail
          go_step3
          refine ⟨⟨rfl, k, u, _, _, _, _, _, _, _, _, _, _, _, _, _, _, _, _, _, _, _, _, _, _, _, _, _, _, _, _, _, _, _, _, _, _, _, _, _, _, _, _, _, _, _, _, _, _, _, _, _, _, _, _, _, _, _, _, rfl, by omega, by omega, by omega, hlt, rfl, .inr H9.out, HU.out, HD.out, fun h => or_step u _ k hk HU.out h⟩, ?_⟩
          simp [numM, intOf]; omega
        · have hc' : 128 ≤ (s[q + k].toNat : Int) := by omega
          have h9' : ((7 * (k : Int)) == 63) = false := by simp; omega
          go_wp2_with fail
          go_step3
          refine ⟨⟨rfl, k + 1, u + s[q + k].toNat % 128 * 2 ^ (7 * k), _, _, _, _, _, _, _, _, _, _, _, _, _, _, _, _, _, _, _, _, _, _, _, _, _, _, _, _, _, _, _, _, _, _, _, _, _, _, _, _, _, _, _, _, _, _, _, _, _, _, _, _, _, _, _, _, rfl, by omega, by omega, or_step u _ k hk HU.out (by omega), by omega, next_lt u _ k HU.out, dec_more s q k u _ hlt h9 hc HD.out⟩, ?_⟩
          simp [numM, intOf]; omega
      · have hlt' : (s.size : Int) ≤ (q : Int) + k := by omega
        have HD := hide hd
        clear hd hu
        go_wp2_with fail
        go_step3
        refine ⟨⟨rfl, _, _, _, _, _, _, _, _, _, _, _, _, _, _, _, _, _, _, _, _, _, _, _, _, _, _, _, _, _, _, _, _, _, _, _, _, _, _, _, _, _, _, _, _, _, _, _, _, _, _, _, _, _, _, _, _, _, rfl, .inr rfl, dec_short s q k u _ (by omega) HD.out⟩, ?_⟩
        simp [numM, intOf]; omega
    | 0, hJ =>
      obtain ⟨rfl, C, u1, u8, u9, u10, u11, u12, u13, u14, u15, u16, u17, u18, u19, u20, u21, u22, u23, u24, u25, u26, u27, u28, u29, u30, u31, u32, u33, u34, u35, u36, u37, u38, u39, u40, u41, u42, u43, u44, u45, u46, u47, u48, u49, u50, u51, u52, u53, u54, u55, u56, u57, u58, u59, u60, u61, u62, rfl, hC, hd⟩ := id hJ
      clear hJ
      refine ⟨_, rfl, ?_⟩
      rcases hC with rfl | rfl
      all_goals
        have HD := hide hd
        clear hd
        go_wp2_with fail
        rw [jumps_ret]
        go_ret3
        exact ⟨by rw [HD.out]; rfl, rfl⟩
    | 2, hJ =>
      obtain ⟨rfl, k, u, X, V, S, C, u11, u12, u13, u14, u15, u16, u17, u18, u19, u20, u21, u22, u23, u24, u25, u26, u27, u28, u29, u30, u31, u32, u33, u34, u35, u36, u37, u38, u39, u40, u41, u42, u43, u44, u45, u46, u47, u48, u49, u50, u51, u52, u53, u54, u55, u56, u57, u58, u59, u60, u61, u62, rfl, hk, rfl, rfl, hok⟩ := id hJ
      clear hJ
      refine ⟨_, rfl, ?_⟩
      obtain ⟨hlt, rfl, hc, hu, hd, hV⟩ := hok
      rcases (show (k = 9 ∧ 1 < s[q + k].toNat) ∨ (k = 9 ∧ s[q + k].toNat = 0) ∨ (k = 9 ∧ s[q + k].toNat = 1) ∨ (0 < k ∧ k < 9 ∧ s[q + k].toNat = 0) ∨ (0 < k ∧ k < 9 ∧ 1 ≤ s[q + k].toNat) ∨ k = 0 from by omega) with h | h | h | h | h | h
      case' inl => have h63 : ((7 * (k : Int)) == 63) = true := by simp; omega
      case' inl => have h1 : 1 < (s[q + k].toNat : Int) := by omega
      case' inl => have HB := hide (dec_bad s q k u _ hlt (by omega) hd)
      case' inr.inl => have h63 : ((7 * (k : Int)) == 63) = true := by simp; omega
      case' inr.inl => have h1 : ((s[q + k].toNat : Int) == 0) = true := by simp; omega
      case' inr.inl => have h2 : (s[q + k].toNat : Int) ≤ 1 := by omega
      case' inr.inl => have h3 : 0 < 7 * (k : Int) := by omega
      case' inr.inl => have HB := hide (dec_bad s q k u _ hlt (by omega) hd)
      case' inr.inr.inl => have h63 : ((7 * (k : Int)) == 63) = true := by simp; omega
      case' inr.inr.inl => have h1 : ((s[q + k].toNat : Int) == 0) = false := by simp; omega
      case' inr.inr.inl => have h2 : (s[q + k].toNat : Int) ≤ 1 := by omega
      case' inr.inr.inl => have h3 : 0 < 7 * (k : Int) := by omega
      case' inr.inr.inr.inl => have h63 : ((7 * (k : Int)) == 63) = false := by simp; omega
      case' inr.inr.inr.inl => have h1 : ((s[q + k].toNat : Int) == 0) = true := by simp; omega
      case' inr.inr.inr.inl => have h3 : 0 < 7 * (k : Int) := by omega
      case' inr.inr.inr.inl => have HB := hide (dec_bad s q k u _ hlt (by omega) hd)
      case' inr.inr.inr.inr.inl => have h63 : ((7 * (k : Int)) == 63) = false := by simp; omega
      case' inr.inr.inr.inr.inl => have h1 : ((s[q + k].toNat : Int) == 0) = false := by simp; omega
      case' inr.inr.inr.inr.inl => have h3 : 0 < 7 * (k : Int) := by omega
      case' inr.inr.inr.inr.inr => have h63 : ((7 * (k : Int)) == 63) = false := by simp; omega
      case' inr.inr.inr.inr.inr => have h3 : 7 * (k : Int) ≤ 0 := by omega
      case' inr.inr.inl | inr.inr.inr.inr.inl | inr.inr.inr.inr.inr =>
        have hU := next_fits u s[q + k].toNat k hk hu (by omega)
        obtain rfl := hV (by omega)
        have hG := dec_good s q k u _ hlt (by omega) (by omega) (by omega) hd
        generalize u + s[q + k].toNat % 128 * 2 ^ (7 * k) = U at *
        have hx := unfold_xor U hU
        have ha := u64_and1 (U : Int) (by omega) (by omega)
        have HG := hide hG
        clear hG hd hu hV hc
      case inl | inr.inl | inr.inr.inr.inl =>
        have H := hide h
        clear h hd hu hV hc
        go_wp2_with fail
        go_step3
        refine ⟨⟨rfl, _, _, _, _, _, _, _, _, _, _, _, _, _, _, _, _, _, _, _, _, _, _, _, _, _, _, _, _, _, _, _, _, _, _, _, _, _, _, _, _, _, _, _, _, _, _, _, _, _, _, _, _, _, _, _, _, _, rfl, .inl rfl, HB.out⟩, ?_⟩
        simp [numM]
      all_goals
        have H := hide h
        clear h
        go_wp2_with fail
        rw [jumps_ret]
        go_ret3
        exact ⟨by rw [HG.out, numRet_good]; simp; omega, rfl⟩
end Go.Proofs.YtdoodkabmeojmaaDoor
