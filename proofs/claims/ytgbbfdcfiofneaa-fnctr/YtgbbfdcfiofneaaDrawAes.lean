/- The draws of chapter 4. -/
import Derived.Test.YtgbbfdcfiofneaaSrcE
namespace Go.Proofs.Ytgbbfdcfiofneaa
open Go.RowKit
set_option maxRecDepth 100000 in
set_option maxHeartbeats 800000 in
theorem src_key (B : Nat) (w : World) (g : Nat) (a : Option Addr) (len cap : Nat) (hs : Src 64 B w g a len cap) :
    Calls Try.prog 23 #[.pointer (some ⟨g, 0, none⟩)] w fun e w' => ∃ t : ByteArray, e = .returned (.string t) ∧ t.size ≤ 19 ∧ Src 64 B w' g a len cap ∧ w.grownBy w' (some g) := by
  have H1 := hide hs
  clear hs
  go_enter Try.func23, Try.ntmps23
  go_wp2_with fail
  refine (src_one _ _ _ a len cap 12 (by omega) H1.out).mono ?_
  rintro e w2 ⟨r, rfl, hs2, hg2⟩
  have H2 := hide hs2
  clear hs2 H1
  cases r
  · go_wp2_with fail
    refine (src_bytes _ _ _ a len cap 16 (by omega) H2.out).mono ?_
    rintro e w3 ⟨t, rfl, ht, hs3, hg3⟩
    have H3 := hide hs3
    have G3 := grownBy_trans hg2 hg3
    have bt : t.size ≤ 19 := by omega
    clear hs3 hg2 hg3 ht
    go_wp2_with fail
    go_ret
    exact ⟨t, rfl, bt, H3.out, G3⟩
  · go_wp2_with fail
    refine (src_n _ _ _ a len cap 20 (by omega) H2.out).mono ?_
    rintro e w3 ⟨v, rfl, v0, v1, hs3, hg3⟩
    have H3 := hide hs3
    have G3 := grownBy_trans hg2 hg3
    obtain ⟨k, rfl⟩ := Int.eq_ofNat_of_zero_le v0
    have hk : k < 20 := by omega
    clear hs3 hg2 hg3 v1 H2
    go_wp2_with fail
    refine (src_bytes _ _ _ a len cap k (by omega) H3.out).mono ?_
    rintro e w4 ⟨t, rfl, ht, hs4, hg4⟩
    have H4 := hide hs4
    have G4 := grownBy_trans G3 hg4
    have bt : t.size ≤ 19 := by omega
    clear hs4 hg4 ht H3 G3
    go_wp2_with fail
    go_ret
    exact ⟨t, rfl, bt, H4.out, G4⟩
set_option maxRecDepth 100000 in
set_option maxHeartbeats 800000 in
theorem drawAesBlock_any (w : World) (a : Option Addr) (len cap : Nat) (hl : len ≤ 1048576) (hby : BytesIn w w.heap.size a len) :
    Calls Try.prog 11 #[.slice a len cap] w fun e w' => ∃ k t : ByteArray, e = .returned (.tuple #[.string k, .string t]) ∧ k.size ≤ 19 ∧ t.size ≤ 19 ∧ w.grownBy w' none := by
  have HB := hide hby
  clear hby
  go_enter Try.func11, Try.ntmps11
  go_wp2_with fail
  refine (source_any _ a len cap hl HB.out).mono ?_
  rintro e w1 ⟨rfl, hs1, hg1⟩
  have H1 := hide hs1
  have G1 := hg1
  clear hs1 hg1
  go_wp2_with fail
  refine (src_key _ _ _ a len cap H1.out).mono ?_
  rintro e w2 ⟨k, rfl, bk, hs, hg⟩
  have H2 := hide hs
  have G2 := grownBy_new G1 hg (Nat.le_refl _)
  clear hs hg H1 G1
  go_wp2_with fail
  refine (src_one _ _ _ a len cap 12 (by omega) H2.out).mono ?_
  rintro e w3 ⟨r, rfl, hs, hg⟩
  have H3 := hide hs
  have G3 := grownBy_new G2 hg (Nat.le_refl _)
  clear hs hg H2 G2
  cases r
  · go_wp2_with fail
    refine (src_bytes _ _ _ a len cap 16 (by omega) H3.out).mono ?_
    rintro e w4 ⟨t, rfl, ht, hs, hg⟩
    have H4 := hide hs
    have G4 := grownBy_new G3 hg (Nat.le_refl _)
    have bt : t.size ≤ 19 := by omega
    clear hs hg H3 G3 ht
    go_wp2_with fail
    go_ret2
    exact ⟨k, t, rfl, bk, bt, G4⟩
  · go_wp2_with fail
    refine (src_n _ _ _ a len cap 20 (by omega) H3.out).mono ?_
    rintro e w4 ⟨v, rfl, v0, v1, hs, hg⟩
    have H4 := hide hs
    have G4 := grownBy_new G3 hg (Nat.le_refl _)
    obtain ⟨m, rfl⟩ := Int.eq_ofNat_of_zero_le v0
    have hm : m < 20 := by omega
    clear hs hg H3 v1 G3
    go_wp2_with fail
    refine (src_bytes _ _ _ a len cap m (by omega) H4.out).mono ?_
    rintro e w5 ⟨t, rfl, ht, hs, hg⟩
    have H5 := hide hs
    have G5 := grownBy_new G4 hg (Nat.le_refl _)
    have bt : t.size ≤ 19 := by omega
    clear hs hg H4 G4 ht
    go_wp2_with fail
    go_ret2
    exact ⟨k, t, rfl, bk, bt, G5⟩
set_option maxRecDepth 100000 in
set_option maxHeartbeats 800000 in
theorem drawCtr_any (w : World) (a : Option Addr) (len cap : Nat) (hl : len ≤ 1048576) (hby : BytesIn w w.heap.size a len) :
    Calls Try.prog 8 #[.slice a len cap] w fun e w' => ∃ (k : ByteArray) (n : Int) (t : ByteArray), e = .returned (.tuple #[.string k, .int .i64 n, .string t]) ∧ k.size ≤ 19 ∧ -9223372036854775808 ≤ n ∧ n ≤ 9223372036854775807 ∧ t.size ≤ 59 ∧ w.grownBy w' none := by
  have HB := hide hby
  clear hby
  go_enter Try.func8, Try.ntmps8
  go_wp2_with fail
  refine (source_any _ a len cap hl HB.out).mono ?_
  rintro e w1 ⟨rfl, hs1, hg1⟩
  have H1 := hide hs1
  have G1 := hg1
  clear hs1 hg1
  go_wp2_with fail
  refine (src_key _ _ _ a len cap H1.out).mono ?_
  rintro e w2 ⟨k, rfl, bk, hs, hg⟩
  have H2 := hide hs
  have G2 := grownBy_new G1 hg (Nat.le_refl _)
  clear hs hg H1 G1
  go_wp2_with fail
  refine (src_n _ _ _ a len cap 9 (by omega) H2.out).mono ?_
  rintro e w3 ⟨v, rfl, v0, v1, hs, hg⟩
  have H3 := hide hs
  have G3 := grownBy_new G2 hg (Nat.le_refl _)
  obtain ⟨m, rfl⟩ := Int.eq_ofNat_of_zero_le v0
  have hm : m < 9 := by omega
  clear hs hg H2 v1 G2
  go_wp2_with fail
  refine (src_one _ _ _ a len cap 8 (by omega) H3.out).mono ?_
  rintro e w4 ⟨r, rfl, hs, hg⟩
  have H4 := hide hs
  have G4 := grownBy_new G3 hg (Nat.le_refl _)
  clear hs hg H3 G3
  cases r
  · go_wp2_with fail
    refine (src_n _ _ _ a len cap 60 (by omega) H4.out).mono ?_
    rintro e w5 ⟨v, rfl, v0, v1, hs, hg⟩
    have H5 := hide hs
    have G5 := grownBy_new G4 hg (Nat.le_refl _)
    obtain ⟨q, rfl⟩ := Int.eq_ofNat_of_zero_le v0
    have hq : q < 60 := by omega
    clear hs hg H4 v1 G4
    go_wp2_with fail
    refine (src_bytes _ _ _ a len cap q (by omega) H5.out).mono ?_
    rintro e w6 ⟨t, rfl, ht, hs, hg⟩
    have H6 := hide hs
    have G6 := grownBy_new G5 hg (Nat.le_refl _)
    have bt : t.size ≤ 59 := by omega
    clear hs hg H5 G5 ht
    go_wp2_with fail
    go_ret3
    exact ⟨k, _, t, rfl, bk, by omega, by omega, bt, G6⟩
  · go_wp2_with fail
    refine (src_edge _ _ _ a len cap H4.out).mono ?_
    rintro e w5 ⟨x, rfl, x0, x1, hs, hg⟩
    have H5 := hide hs
    have G5 := grownBy_new G4 hg (Nat.le_refl _)
    clear hs hg H4 G4
    go_wp2_with fail
    refine (src_n _ _ _ a len cap 60 (by omega) H5.out).mono ?_
    rintro e w6 ⟨v, rfl, v0, v1, hs, hg⟩
    have H6 := hide hs
    have G6 := grownBy_new G5 hg (Nat.le_refl _)
    obtain ⟨q, rfl⟩ := Int.eq_ofNat_of_zero_le v0
    have hq : q < 60 := by omega
    clear hs hg H5 v1 G5
    go_wp2_with fail
    refine (src_bytes _ _ _ a len cap q (by omega) H6.out).mono ?_
    rintro e w7 ⟨t, rfl, ht, hs, hg⟩
    have H7 := hide hs
    have G7 := grownBy_new G6 hg (Nat.le_refl _)
    have bt : t.size ≤ 59 := by omega
    clear hs hg H6 G6 ht
    go_wp2_with fail
    go_ret3
    exact ⟨k, x, t, rfl, bk, x0, x1, bt, G7⟩
end Go.Proofs.Ytgbbfdcfiofneaa
