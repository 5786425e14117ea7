/- The draws of Seal and CrcMore: some text, some number; nothing that was there turns. -/
import Derived.Test.YtiknoncalgifmaaSrcE
import Derived.Test.YtiknoncalgifmaaCrcI
namespace Go.Proofs.Ytiknoncalgifmaa
open Go.RowKit

set_option maxRecDepth 100000 in
set_option maxHeartbeats 800000 in
theorem drawSeal_any (w : World) (a : Option Addr) (len cap : Nat) (hl : len ≤ 1048576) (hby : BytesIn w w.heap.size a len) :
    Calls Try.prog 7 #[.slice a len cap] w fun e w' => ∃ t : ByteArray, e = .returned (.string t) ∧ t.size ≤ 19997 ∧ w.grownBy w' none := by
  have HB := hide hby
  clear hby
  obtain ⟨i0, hi, hz0, hz1, hz2⟩ := info_parts Try.infoV8
  go_enter Try.func7, Try.ntmps7
  go_wp2_with fail
  refine (source_any _ a len cap hl HB.out).mono ?_
  rintro e w1 ⟨rfl, hs1, hg1⟩
  have H1 := hide hs1
  clear hs1
  go_wp2_with fail
  refine (src_one _ _ _ a len cap 30 (by omega) H1.out).mono ?_
  rintro e w2 ⟨r, rfl, hs2, hg2⟩
  have H2 := hide hs2
  have hG2 := grownBy_new hg1 hg2 (Nat.le_refl _)
  clear hs2 hg1 hg2 H1
  cases r
  · go_wp2_with fail
    refine (src_n _ _ _ a len cap 20 (by omega) H2.out).mono ?_
    rintro e w3 ⟨v, rfl, v0, v1, hs3, hg3⟩
    have H3 := hide hs3
    have hG3 := grownBy_new hG2 hg3 (Nat.le_refl _)
    obtain ⟨k, rfl⟩ := Int.eq_ofNat_of_zero_le v0
    have hk : k < 20 := by omega
    clear hs3 hg3 H2 v1 hG2
    go_wp2_with fail
    refine (src_bytes _ _ _ a len cap k (by omega) H3.out).mono ?_
    rintro e w4 ⟨t, rfl, ht, _, hg4⟩
    have hG4 := grownBy_new hG3 hg4 (Nat.le_refl _)
    have HT := hide ht
    clear ht hg4 H3 hG3
    go_wp2_with fail
    go_ret
    exact ⟨t, rfl, by rw [HT.out]; omega, hG4⟩
  · go_wp2_with fail
    refine (src_n _ _ _ a len cap 3 (by omega) H2.out).mono ?_
    rintro e w3 ⟨v, rfl, v0, v1, hs3, hg3⟩
    have hG3 := grownBy_new hG2 hg3 (Nat.le_refl _)
    obtain ⟨k, rfl⟩ := Int.eq_ofNat_of_zero_le v0
    have hk : k < 3 := by omega
    clear hs3 hg3 H2 v1 hG2
    go_wp2_with (at_make; refine wpList_make_full _ rfl _ _ 22 rfl w3.heap.size 5 i0 (.int .u8 0) 1 Try.underlying22 hi hz0 hz1 .i64 .i64 _ _ (19995 + k) rfl rfl (by omega) (by omega) ?m1 ?m2 (Nat.le_refl _) ?_)
    case m1 => rw [hz2]; omega
    case m2 => unfold maxLen; omega
    intro w4 hown hg4
    rw [made_bytes] at hown
    have hown' : w4.ownsRow w3.heap.size 5 1 (.slice (some ⟨w3.heap.size, 0, none⟩) (19995 + k) (19995 + k)) (List.replicate (19995 + k) (0 : UInt8)).length ((List.replicate (19995 + k) (0 : UInt8)).map byteV) := by simpa using hown
    have hcv := own_conv (P := Try.prog) hown' Try.underlying22 Try.underlying5 Try.underlying9
    generalize hT : (⟨(List.replicate (19995 + k) (0 : UInt8)).toArray⟩ : ByteArray) = t at *
    have hts : t.size = 19995 + k := by rw [← hT, size_mk]; simp
    have HT := hide hts
    clear hown hown' hT hts
    have hG4 := grownBy_none hG3 hg4
    clear hg4 hG3
    go_wp2_with fail
    go_ret
    exact ⟨t, rfl, by rw [HT.out]; omega, hG4⟩

set_option maxRecDepth 100000 in
set_option maxHeartbeats 800000 in
theorem drawCrcMore_any (w : World) (a : Option Addr) (len cap : Nat) (hl : len ≤ 1048576) (hby : BytesIn w w.heap.size a len) :
    Calls Try.prog 12 #[.slice a len cap] w fun e w' => ∃ (c : Int) (t : ByteArray), e = .returned (.tuple #[.int .i64 c, .string t]) ∧ -9223372036854775808 ≤ c ∧ c ≤ 9223372036854775807 ∧ t.size ≤ 8 ∧ w.grownBy w' none := by
  have HB := hide hby
  clear hby
  go_enter Try.func12, Try.ntmps12
  go_wp2_with fail
  refine (source_any _ a len cap hl HB.out).mono ?_
  rintro e w1 ⟨rfl, hs1, hg1⟩
  have H1 := hide hs1
  clear hs1
  go_wp2_with fail
  refine (src_n _ _ _ a len cap 9 (by omega) H1.out).mono ?_
  rintro e w2 ⟨v, rfl, v0, v1, hs2, hg2⟩
  have H2 := hide hs2
  have hG2 := grownBy_new hg1 hg2 (Nat.le_refl _)
  obtain ⟨k, rfl⟩ := Int.eq_ofNat_of_zero_le v0
  have hk : k < 9 := by omega
  clear hs2 hg1 hg2 H1 v1
  go_wp2_with fail
  refine (src_bytes _ _ _ a len cap k (by omega) H2.out).mono ?_
  rintro e w3 ⟨t, rfl, ht, hs3, hg3⟩
  have H3 := hide hs3
  have hG3 := grownBy_new hG2 hg3 (Nat.le_refl _)
  have HT : t.size ≤ 8 := by omega
  clear hs3 hg3 H2 hG2 ht
  go_wp2_with fail
  refine (src_one _ _ _ a len cap 5 (by omega) H3.out).mono ?_
  rintro e w4 ⟨r, rfl, hs4, hg4⟩
  have H4 := hide hs4
  have hG4 := grownBy_new hG3 hg4 (Nat.le_refl _)
  clear hs4 hg4 H3 hG3
  cases r
  · go_wp2_with fail
    refine (src_n _ _ _ a len cap 9 (by omega) H4.out).mono ?_
    rintro e w5 ⟨v, rfl, v0, v1, hs5, hg5⟩
    have H5 := hide hs5
    have hG5 := grownBy_new hG4 hg5 (Nat.le_refl _)
    obtain ⟨j, rfl⟩ := Int.eq_ofNat_of_zero_le v0
    have hj : j < 9 := by omega
    clear hs5 hg5 H4 v1 hG4
    go_wp2_with fail
    refine (src_bytes _ _ _ a len cap j (by omega) H5.out).mono ?_
    rintro e w6 ⟨t2, rfl, ht2, _, hg6⟩
    have hG6 := grownBy_new hG5 hg6 (Nat.le_refl _)
    have HT2 : t2.size ≤ 8 := by omega
    clear hg6 H5 hG5 ht2
    go_wp2_with fail
    refine (spec_crc t2 _ (by omega)).mono ?_
    rintro e w7 ⟨rfl, rfl⟩
    have hcl := crcMore_lt 0 t2.data.toList (by omega)
    go_wp2_with fail
    go_ret2
    exact ⟨_, t, rfl, by omega, by omega, HT, hG6⟩
  · go_wp2_with fail
    refine (src_edge _ _ _ a len cap H4.out).mono ?_
    rintro e w5 ⟨x, rfl, x0, x1, _, hg5⟩
    have hG5 := grownBy_new hG4 hg5 (Nat.le_refl _)
    clear hg5 H4 hG4
    go_wp2_with fail
    go_ret2
    exact ⟨x, t, rfl, x0, x1, HT, hG5⟩
end Go.Proofs.Ytiknoncalgifmaa
