/- The draws of chapter 8: spoil, DrawPack, DrawUnpack. -/
import Derived.Test.YtdoodkabmeojmaaDoorDrawMat
import Derived.Test.YtdoodkabmeojmaaDoorPackPs
import Derived.BigQuiet
namespace Go.Proofs.YtdoodkabmeojmaaDoor
open Go.RowKit
set_option maxRecDepth 100000 in
set_option maxHeartbeats 400000 in
theorem drawPack_any (w : World) (a : Option Addr) (len cap : Nat) (hl : len ≤ 1048576) (hby : BytesIn w w.heap.size a len) :
    Calls Tryd.prog 4 #[.slice a len cap] w fun e w' => ∃ t : ByteArray, e = .returned (.string t) ∧ (t.size ≤ 300 ∨ ∃ n, n ≤ 4001 ∧ t = ⟨(List.replicate n (0 : UInt8)).toArray⟩) ∧ w.grownBy w' none := by
  have HB := hide hby
  clear hby
  go_enter Tryd.func4, Tryd.ntmps4
  go_wp2_with fail
  refine (source_any _ a len cap hl HB.out).mono ?_
  rintro e w1 ⟨rfl, hs1, hg1⟩
  have H1 := hide hs1
  clear hs1
  go_wp2_with fail
  refine (src_text2 _ _ _ a len cap H1.out hg1.size).mono ?_
  rintro e w2 ⟨t, rfl, ht, hs2, hg2⟩
  have hG2 := grownBy_new hg1 hg2 (Nat.le_refl _)
  have HT := hide ht
  clear hs2 hg1 hg2 H1 ht
  go_wp2_with fail
  go_ret
  exact ⟨t, rfl, HT.out, hG2⟩
theorem src_drewN {B : Nat} {w w2 : World} {g n : Nat} {a : Option Addr} {len cap : Nat} (hs : Src 55 B w2 g a len cap) (hg : w.grownBy w2 (some g)) (hB : B ≤ w2.heap.size) : Src 55 B (w2.drewN n) g a len cap ∧ w.grownBy (w2.drewN n) (some g) :=
  ⟨hs.kept (r := none) (show w2.grownBy (w2.drewN n) none from ⟨rfl, rfl, rfl, Nat.le_refl _, fun _ _ _ => rfl⟩) (fun k hk => by cases hk) hB, ⟨hg.os, hg.tape, hg.output, hg.size, hg.block⟩⟩
set_option maxRecDepth 100000 in
set_option maxHeartbeats 1600000 in
theorem src_spoil (B : Nat) (w : World) (g : Nat) (a : Option Addr) (len cap : Nat) (t : ByteArray) (ht : t.size ≤ 100000) (hs : Src 55 B w g a len cap) (hB : B ≤ w.heap.size) :
    Calls Tryd.prog 22 #[.pointer (some ⟨g, 0, none⟩), .string t] w fun e w' => ∃ u : ByteArray, e = .returned (.string u) ∧ u.size ≤ 100001 ∧ Src 55 B w' g a len cap ∧ w.grownBy w' (some g) := by
  have hgl := hs.lt
  have ht' : (t.size : Int) ≤ 100000 := by omega
  have HS := hide hs
  clear hs
  go_enter Tryd.func22, Tryd.ntmps22
  go_wp2_with fail
  refine (src_n _ _ _ a len cap _ (by omega) HS.out).mono ?_
  rintro e w1 ⟨x, rfl, x0, x1, hs1, hg1⟩
  have HS1 := hide hs1
  have HG1 := hide hg1
  obtain ⟨k, rfl⟩ := Int.eq_ofNat_of_zero_le x0
  have hk : k ≤ t.size := by omega
  have hk' : (k : Int) ≤ (t.size : Int) := by omega
  clear hs1 hg1 HS x1
  go_wp2_with fail
  refine (src_n _ _ _ a len cap 17 (by omega) HS1.out).mono ?_
  rintro e w2 ⟨y, rfl, y0, y1, hs2, hg2⟩
  have HS2 := hide hs2
  have HG2 := hide (grownBy_trans HG1.out hg2)
  obtain ⟨j, rfl⟩ := Int.eq_ofNat_of_zero_le y0
  have hj : j < 17 := by omega
  have hj' : (j : Int) < 17 := by omega
  clear hs2 hg2 HS1 HG1 y1
  obtain ⟨z, hz⟩ : ∃ z : UInt8, z = (⟨#[32, 10, 48, 97, 45, 110, 44, 58, 93, 255, 40, 120, 126, 49, 128, 225, 59]⟩ : ByteArray)[j]'hj := ⟨_, rfl⟩
  have hz2 := hz.symm
  have hcv := own_conv (P := Tryd.prog) (w := w2.alloc (.cells #[.int .u8 (z.toNat : Int)] 5)) (base := w2.heap.size) (e := 5) (v := .slice (some ⟨w2.heap.size, 0, none⟩) 1 1) (l := [z]) (by
    have h := World.ownsRow_lit (e := 5) (size := 1) (base := w2.heap.size) w2 #[.int .u8 (z.toNat : Int)] 1 (Nat.le_refl _) (by unfold maxLen; omega) rfl
    exact h) Tryd.underlying22 Tryd.underlying5 Tryd.underlying9
  obtain ⟨C, hC⟩ : ∃ C : ByteArray, C = ⟨[z].toArray⟩ := ⟨_, rfl⟩
  have hCs : C.size = 1 := by rw [hC]; rfl
  rw [← hC] at hcv
  have S3 := hide (HS2.out.kept (grownBy_alloc (World.grownBy.refl w2 none) (.cells #[.int .u8 (z.toNat : Int)] 5)) (fun k hk => by cases hk) (Nat.le_trans hB HG2.out.size))
  have G3 := hide (grownBy_alloc HG2.out (.cells #[.int .u8 (z.toNat : Int)] 5))
  clear hz hC HS2 HG2
  have s1 := fun W => (show (Instr.slice 9 (.string t) none (some (.int .i64 (k : Int))) none).run Tryd.prog W = .ok (.string (t.extract 0 k)) W by
    rw [run_slice_string_h W 9 t Tryd.underlying9 .i64 (k : Int) (by omega) (by omega), Int.toNat_natCast])
  have s2 := fun W => run_rest (P := Tryd.prog) W 9 t k Tryd.underlying9 hk
  obtain ⟨A, hA⟩ : ∃ A : ByteArray, A = t.extract 0 k := ⟨_, rfl⟩
  obtain ⟨D, hD⟩ : ∃ D : ByteArray, D = t.extract k t.size := ⟨_, rfl⟩
  have hAs : A.size = k := by rw [hA, ByteArray.size_extract]; omega
  have hDs : D.size = t.size - k := by rw [hD, ByteArray.size_extract]; omega
  rw [← hA] at s1
  rw [← hD] at s2
  clear hD
  by_cases hkt : k = t.size
  · have hkt' : (k : Int) = (t.size : Int) := by omega
    have d1 : ((k : Int) == (t.size : Int)) = true := by rw [hkt]; exact beq_self_eq_true _
    clear hA hkt
    go_wp2_with fail
    go_quiet (fail)
    have R := hide (src_drewN (n := nq) S3.out G3.out (Nat.le_trans hB G3.out.size))
    go_wp2_with fail
    go_ret
    exact ⟨_, rfl, by simp only [ByteArray.size_append]; omega, R.out.1, R.out.2⟩
  · have hkt' : ¬ (k : Int) = (t.size : Int) := by omega
    have d1 : ((k : Int) == (t.size : Int)) = false := by rw [beq_eq_false_iff_ne]; omega
    have s3 := fun W => run_rest (P := Tryd.prog) W 9 t (k + 1) Tryd.underlying9 (by omega)
    obtain ⟨F, hF⟩ : ∃ F : ByteArray, F = t.extract (k + 1) t.size := ⟨_, rfl⟩
    have hFs : F.size = t.size - (k + 1) := by rw [hF, ByteArray.size_extract]; omega
    rw [← hF] at s3
    obtain ⟨k1, hk1⟩ : ∃ k1, k1 = k + 1 := ⟨_, rfl⟩
    rw [← hk1] at s3
    have a1 : (k : Int) + 1 = (k1 : Int) := by omega
    have a2 : IntKind.i64.wrap ((k : Int) + 1) = (k1 : Int) := by rw [IntKind.wrap_i64]; omega
    clear hF hA hk1
    go_wp2_with fail
    refine (src_one _ _ _ a len cap 3 (by omega) S3.out).mono ?_
    rintro e w4 ⟨r, rfl, hs4, hg4⟩
    have S4 := hide hs4
    have G4 := hide (grownBy_trans G3.out hg4)
    clear hs4 hg4 S3 G3
    cases r with
    | true =>
      go_wp2_with fail
      go_quiet (fail)
      have R := hide (src_drewN (n := nq) S4.out G4.out (Nat.le_trans hB G4.out.size))
      go_wp2_with fail
      go_ret
      exact ⟨_, rfl, by simp only [ByteArray.size_append]; omega, R.out.1, R.out.2⟩
    | false =>
      go_wp2_with fail
      refine (src_one _ _ _ a len cap 2 (by omega) S4.out).mono ?_
      rintro e w5 ⟨r, rfl, hs5, hg5⟩
      have S5 := hide hs5
      have G5 := hide (grownBy_trans G4.out hg5)
      clear hs5 hg5 S4 G4
      cases r with
      | true =>
        go_wp2_with fail
        go_quiet (fail)
        have R := hide (src_drewN (n := nq) S5.out G5.out (Nat.le_trans hB G5.out.size))
        go_wp2_with fail
        go_ret
        exact ⟨_, rfl, by simp only [ByteArray.size_append]; omega, R.out.1, R.out.2⟩
      | false =>
        go_wp2_with fail
        go_quiet (fail)
        have R := hide (src_drewN (n := nq) S5.out G5.out (Nat.le_trans hB G5.out.size))
        go_wp2_with fail
        go_ret
        exact ⟨_, rfl, by simp only [ByteArray.size_append]; omega, R.out.1, R.out.2⟩
set_option maxRecDepth 100000 in
set_option maxHeartbeats 1600000 in
theorem drawUnpack_any (w : World) (a : Option Addr) (len cap : Nat) (hl : len ≤ 1048576) (hby : BytesIn w w.heap.size a len) :
    Calls Tryd.prog 8 #[.slice a len cap] w fun e w' => ∃ u : ByteArray, e = .returned (.string u) ∧ u.size ≤ 100001 ∧ w.grownBy w' none := by
  have HB := hide hby
  clear hby
  go_enter Tryd.func8, Tryd.ntmps8
  go_wp2_with fail
  refine (source_any _ a len cap hl HB.out).mono ?_
  rintro e w1 ⟨rfl, hs1, hg1⟩
  have H1 := hide hs1
  have hz1 := hg1.size
  clear hs1
  go_wp2_with fail
  refine (src_text _ _ _ a len cap H1.out hg1.size).mono ?_
  rintro e w2 ⟨t, rfl, ht, hs2, hg2⟩
  have S2 := hide hs2
  have G2 := hide (grownBy_new hg1 hg2 (Nat.le_refl _))
  have hz2 := hg2.size
  clear hs2 hg1 hg2 H1
  go_wp2_with fail
  refine (spec_pack t _ (by omega)).mono ?_
  rintro e w3 ⟨rfl, hb3⟩
  have hg3 : w2.grownBy w3 none := ⟨hb3.os, hb3.tape, hb3.output, hb3.size, fun k hk _ => hb3.block k hk⟩
  have S3 := hide (S2.out.kept hg3 (fun k hk => by cases hk) (by omega))
  have G3 := hide (grownBy_trans G2.out hg3)
  have hps : (packS t).size ≤ 68020 := by
    unfold packS
    by_cases h : t.size ≤ 4000
    · rw [if_pos h]; exact packB_size t h
    · rw [if_neg h]; exact Nat.zero_le _
  have hz3 := hg3.size
  generalize packS t = u at *
  clear hb3 hg3 S2 G2 ht
  go_wp2_with fail
  refine (src_n _ _ _ a len cap 4 (by omega) S3.out).mono ?_
  rintro e w4 ⟨c, rfl, c0, c1, hs4, hg4⟩
  have S4 := hide hs4
  have G4 := hide (grownBy_new G3.out hg4 (Nat.le_refl _))
  have hz4 := hg4.size
  clear hs4 hg4 S3 G3
  by_cases hc0 : c = 0
  · subst hc0
    go_wp2_with fail
    refine (src_spoil _ _ _ a len cap u (by omega) S4.out (by omega)).mono ?_
    rintro e w5 ⟨x, rfl, hx, hs5, hg5⟩
    have G5 := hide (grownBy_new G4.out hg5 (Nat.le_refl _))
    clear hs5 hg5 S4 G4
    go_wp2_with fail
    go_ret
    exact ⟨x, rfl, hx, G5.out⟩
  · have d0 : (c == 0) = false := by rw [beq_eq_false_iff_ne]; exact hc0
    by_cases hc1 : c = 1
    · subst hc1
      have hu1 : ((u.size : Int)) ≤ 68020 := by omega
      go_wp2_with fail
      refine (src_n _ _ _ a len cap _ (by omega) S4.out).mono ?_
      rintro e w5 ⟨x, rfl, x0, x1, hs5, hg5⟩
      have G5 := hide (grownBy_new G4.out hg5 (Nat.le_refl _))
      obtain ⟨k, rfl⟩ := Int.eq_ofNat_of_zero_le x0
      have hk : k ≤ u.size := by omega
      have s1 := fun W => (show (Instr.slice 9 (.string u) none (some (.int .i64 (k : Int))) none).run Tryd.prog W = .ok (.string (u.extract 0 k)) W by
        rw [run_slice_string_h W 9 u Tryd.underlying9 .i64 (k : Int) (by omega) (by omega), Int.toNat_natCast])
      have hsz : (u.extract 0 k).size ≤ 100001 := by rw [ByteArray.size_extract]; omega
      generalize u.extract 0 k = A at *
      clear hs5 hg5 S4 G4 x1
      go_wp2_with fail
      go_ret
      exact ⟨A, rfl, hsz, G5.out⟩
    · have d1 : (c == 1) = false := by rw [beq_eq_false_iff_ne]; exact hc1
      go_wp2_with fail
      go_ret
      exact ⟨u, rfl, by omega, G4.out⟩
end Go.Proofs.YtdoodkabmeojmaaDoor
