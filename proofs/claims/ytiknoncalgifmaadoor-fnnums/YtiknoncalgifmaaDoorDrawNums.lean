/- The draws of PutNum and PutText: some number, some text; nothing that was there turns. -/
import Derived.Test.YtiknoncalgifmaaDoorSrcE
namespace Go.Proofs.YtiknoncalgifmaaDoor
open Go.RowKit

set_option maxRecDepth 100000 in
set_option maxHeartbeats 800000 in
theorem src_any (B : Nat) (w : World) (g : Nat) (a : Option Addr) (len cap : Nat) (hs : Src 53 B w g a len cap) :
    Calls Tryd.prog 16 #[.pointer (some ⟨g, 0, none⟩)] w fun e w' => ∃ x : Int, e = .returned (.int .i64 x) ∧ -9223372036854775808 ≤ x ∧ x ≤ 9223372036854775807 ∧ Src 53 B w' g a len cap ∧ w.grownBy w' (some g) := by
  have HS := hide hs
  clear hs
  go_enter Tryd.func16, Tryd.ntmps16
  go_wp2_with fail
  refine (src_one B _ g a len cap 4 (by omega) HS.out).mono ?_
  rintro e w1 ⟨r, rfl, hs1, hg1⟩
  have H1 := hide hs1
  clear hs1 HS
  cases r
  · go_wp2_with fail
    refine (src_n B _ g a len cap 1099511627776 (by omega) H1.out).mono ?_
    rintro e w2 ⟨v, rfl, v0, v1, hs2, hg2⟩
    have H2 := hide hs2
    have v2 : v ≤ 1099511627776 := by omega
    have hg := grownBy_trans hg1 hg2
    clear hs2 H1 v1 hg1 hg2
    go_wp2_with fail
    go_ret
    exact ⟨_, rfl, by omega, by omega, H2.out, hg⟩
  · go_wp2_with fail
    refine (src_edge B _ g a len cap H1.out).mono ?_
    rintro e w2 ⟨x, rfl, x0, x1, hs2, hg2⟩
    have H2 := hide hs2
    have hg := grownBy_trans hg1 hg2
    clear hs2 H1 hg1 hg2
    go_wp2_with fail
    go_ret
    exact ⟨_, rfl, x0, x1, H2.out, hg⟩

set_option maxRecDepth 100000 in
set_option maxHeartbeats 800000 in
theorem drawPutNum_any (w : World) (a : Option Addr) (len cap : Nat) (hl : len ≤ 1048576) (hby : BytesIn w w.heap.size a len) :
    Calls Tryd.prog 5 #[.slice a len cap] w fun e w' => ∃ x : Int, e = .returned (.int .i64 x) ∧ -9223372036854775808 ≤ x ∧ x ≤ 9223372036854775807 ∧ w.grownBy w' none := by
  have HB := hide hby
  clear hby
  go_enter Tryd.func5, Tryd.ntmps5
  go_wp2_with fail
  refine (source_any _ a len cap hl HB.out).mono ?_
  rintro e w1 ⟨rfl, hs1, hg1⟩
  have H1 := hide hs1
  clear hs1
  go_wp2_with fail
  refine (src_any _ _ _ a len cap H1.out).mono ?_
  rintro e w2 ⟨x, rfl, x0, x1, _, hg2⟩
  have hg := grownBy_new hg1 hg2 (Nat.le_refl _)
  clear H1 hg1 hg2
  go_wp2_with fail
  go_ret
  exact ⟨_, rfl, x0, x1, hg⟩

set_option maxRecDepth 100000 in
set_option maxHeartbeats 800000 in
theorem drawPutText_any (w : World) (a : Option Addr) (len cap : Nat) (hl : len ≤ 1048576) (hby : BytesIn w w.heap.size a len) :
    Calls Tryd.prog 9 #[.slice a len cap] w fun e w' => ∃ t : ByteArray, e = .returned (.string t) ∧ t.size ≤ 20001 ∧ w.grownBy w' none := by
  have HB := hide hby
  clear hby
  obtain ⟨i0, hi, hz0, hz1, hz2⟩ := info_parts Tryd.infoV8
  go_enter Tryd.func9, Tryd.ntmps9
  go_wp2_with fail
  refine (source_any _ a len cap hl HB.out).mono ?_
  rintro e w1 ⟨rfl, hs1, hg1⟩
  have H1 := hide hs1
  clear hs1
  go_wp2_with fail
  refine (src_one _ _ _ a len cap 8 (by omega) H1.out).mono ?_
  rintro e w2 ⟨r, rfl, hs2, hg2⟩
  have H2 := hide hs2
  have hG2 := grownBy_new hg1 hg2 (Nat.le_refl _)
  clear hs2 hg1 hg2 H1
  cases r
  · go_wp2_with fail
    refine (src_n _ _ _ a len cap 20 (by omega) H2.out).mono ?_
    rintro e w3 ⟨v, rfl, v0, v1, hs3, hg3⟩
    have H3 := hide hs3
    have hG3 := grownBy_new hG2 hg3 (Nat.le_refl _)
    obtain ⟨k, rfl⟩ := Int.eq_ofNat_of_zero_le v0
    have hk : k < 20 := by omega
    clear hs3 hg3 H2 v1 hG2
    go_wp2_with fail
    refine (src_bytes _ _ _ a len cap k (by omega) H3.out).mono ?_
    rintro e w4 ⟨t, rfl, ht, _, hg4⟩
    have hG4 := grownBy_new hG3 hg4 (Nat.le_refl _)
    have HT := hide ht
    clear ht hg4 H3 hG3
    go_wp2_with fail
    go_ret
    exact ⟨t, rfl, by rw [HT.out]; omega, hG4⟩
  · go_wp2_with fail
    refine (src_n _ _ _ a len cap 3 (by omega) H2.out).mono ?_
    rintro e w3 ⟨v, rfl, v0, v1, hs3, hg3⟩
    have hG3 := grownBy_new hG2 hg3 (Nat.le_refl _)
    obtain ⟨k, rfl⟩ := Int.eq_ofNat_of_zero_le v0
    have hk : k < 3 := by omega
    clear hs3 hg3 H2 v1 hG2
    go_wp2_with (at_make; refine wpList_make_full _ rfl _ _ 22 rfl w3.heap.size 5 i0 (.int .u8 0) 1 Tryd.underlying22 hi hz0 hz1 .i64 .i64 _ _ (19999 + k) rfl rfl (by omega) (by omega) ?m1 ?m2 (Nat.le_refl _) ?_)
    case m1 => rw [hz2]; omega
    case m2 => unfold maxLen; omega
    intro w4 hown hg4
    rw [made_bytes] at hown
    have hown' : w4.ownsRow w3.heap.size 5 1 (.slice (some ⟨w3.heap.size, 0, none⟩) (19999 + k) (19999 + k)) (List.replicate (19999 + k) (0 : UInt8)).length ((List.replicate (19999 + k) (0 : UInt8)).map byteV) := by simpa using hown
    have hcv := own_conv (P := Tryd.prog) hown' Tryd.underlying22 Tryd.underlying5 Tryd.underlying9
    generalize hT : (⟨(List.replicate (19999 + k) (0 : UInt8)).toArray⟩ : ByteArray) = t at *
    have hts : t.size = 19999 + k := by rw [← hT, size_mk]; simp
    have HT := hide hts
    clear hown hown' hT hts
    have hG4 := grownBy_none hG3 hg4
    clear hg4 hG3
    go_wp2_with fail
    go_ret
    exact ⟨t, rfl, by rw [HT.out]; omega, hG4⟩
end Go.Proofs.YtiknoncalgifmaaDoor
