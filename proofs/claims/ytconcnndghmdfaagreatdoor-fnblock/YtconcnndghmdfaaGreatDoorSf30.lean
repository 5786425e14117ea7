/- Put together: ImpHid, ImpHi. -/
import Derived.Test.YtconcnndghmdfaaGreatDoorSf29
import Derived.Test.YtconcnndghmdfaaGreatDoorSf7
namespace Go.Proofs.YtconcnndghmdfaaGreatDoor
open Go.RowKit
attribute [local irreducible] times sbox dbl dU
theorem row_key {w : World} {g : Nat} {K : Nat → UInt8} (h : w.rowIs g 100 432 (u8V (cipF K))) (i o : Nat) (hi : i < 11) (ho : o = 256 + 16 * i) : w.rangeAt g o (bL 16 fun j => K (16 * i + j)) :=
 row_range h (by omega) (fun j hj => by rw [cipF, if_neg (by omega), show o + j - 256 = 16 * i + j by omega])
set_option maxRecDepth 100000 in
set_option maxHeartbeats 1600000 in
theorem imp_hidden (g : Nat) (K B : Nat → UInt8) (w : World) (hc : w.rowIs g 100 432 (u8V (cipF K))) :
 Calls Tryz.prog 50 #[.pointer (some ⟨g, 0, none⟩), .agg (bL 16 B).toArray] w fun e w' => e = .returned (.agg (bL 16 (encF K B 10)).toArray) ∧ Below w.heap.size w w' := by
 have hg := hc.lt
 have HC := hide hc
 clear hc
 go_enter Tryz.func50, Tryz.ntmps50
 go_wp2_with fail
 obtain ⟨W1, hW1⟩ : ∃ x, x = (w.alloc (.cells (bL 16 B).toArray 70)).alloc (.cells #[Value.int .u8 0, Value.int .u8 0, Value.int .u8 0, Value.int .u8 0, Value.int .u8 0, Value.int .u8 0, Value.int .u8 0, Value.int .u8 0, Value.int .u8 0, Value.int .u8 0, Value.int .u8 0, Value.int .u8 0, Value.int .u8 0, Value.int .u8 0, Value.int .u8 0, Value.int .u8 0] 70) := ⟨_, rfl⟩
 have r0 : W1.rowIs w.heap.size 70 16 (u8V B) := by rw [hW1]; exact (row_alloc w 70 16 B).alloc _
 have r1 : W1.rowIs (w.heap.size + 1) 70 16 (u8V fun _ => 0) := by
  have h := zeros8_row 16 (w.alloc (.cells (bL 16 B).toArray 70)) #[Value.int .u8 0, Value.int .u8 0, Value.int .u8 0, Value.int .u8 0, Value.int .u8 0, Value.int .u8 0, Value.int .u8 0, Value.int .u8 0, Value.int .u8 0, Value.int .u8 0, Value.int .u8 0, Value.int .u8 0, Value.int .u8 0, Value.int .u8 0, Value.int .u8 0, Value.int .u8 0] 70 rfl
  rw [World.size_alloc] at h; rw [hW1]; exact h
 have rc : W1.rowIs g 100 432 (u8V (cipF K)) := by rw [hW1]; exact (HC.out.alloc _).alloc _
 have rb : Below w.heap.size w W1 := by rw [hW1]; exact ((Below.refl w.heap.size w).alloc (Nat.le_refl _) _).alloc (by simp) _
 rw [← hW1]
 clear hW1
 obtain ⟨k0, hk0⟩ : ∃ k : Nat → UInt8, k = fun j => K (16 * 0 + j) := ⟨_, rfl⟩
 have g1 := row_key rc 0 256 (by omega) (by omega)
 rw [← hk0] at g1
 have HK0 := hide hk0
 clear hk0
 have g0 := row_range0 r0.drew
 refine wp_region_held_drew (S := fun w' => w'.rangeAt g 256 (bL 16 k0)) (by kernel_rfl) g1 (fun hHeld => ?_)
 refine takeD (i := 1) (v := .pointer (some ⟨g, 0, none⟩)) (some 7) rfl rfl (by kernel_rfl) (by kernel_rfl) (by kernel_rfl) (fun _ _ _ h => h) (Or.inl ⟨by rfl, fun w hSw => by go_simp⟩) hHeld ?_
 simp only [Act.put, List.setIfInBounds_toArray, List.set_cons_zero, List.set_cons_succ]
 refine takeD (i := 2) (v := .pointer (some ⟨g, 0, none⟩)) (some 8) rfl rfl (by kernel_rfl) (by kernel_rfl) (by kernel_rfl) (fun _ _ _ h => h) (Or.inl ⟨by rfl, fun w hSw => by go_simp⟩) hHeld ?_
 simp only [Act.put, List.setIfInBounds_toArray, List.set_cons_zero, List.set_cons_succ]
 refine takeD (i := 3) (v := .pointer (some ⟨g, 256, none⟩)) (some 9) rfl rfl (by kernel_rfl) (by kernel_rfl) (by kernel_rfl) (fun _ _ _ h => h) (Or.inl ⟨by rfl, fun w hSw => by go_simp⟩) hHeld ?_
 simp only [Act.put, List.setIfInBounds_toArray, List.set_cons_zero, List.set_cons_succ]
 refine takeD (i := 4) (v := .pointer (some ⟨g, 256, none⟩)) (some 10) rfl rfl (by kernel_rfl) (by kernel_rfl) (by kernel_rfl) (fun _ _ _ h => h) (Or.inl ⟨by rfl, fun w hSw => by go_simp⟩) hHeld ?_
 simp only [Act.put, List.setIfInBounds_toArray, List.set_cons_zero, List.set_cons_succ]
 refine takeD (i := 5) (some 11) rfl rfl (by kernel_rfl) (by kernel_rfl) (by kernel_rfl) (fun _ _ _ h => h) (yieldsB (by rfl) _ (.tmp 10) rfl g 256 16 rfl k0 _ (fun _ h => h) Tryz.underlying70 rfl Tryz.size16) hHeld ?_
 simp only [Act.put, List.setIfInBounds_toArray, List.set_cons_zero, List.set_cons_succ]
 refine oneLoad (i := 0) (some 6) (by kernel_rfl) rfl rfl rfl _ (.tmp 3) rfl w.heap.size 0 16 rfl B _ g0 Tryz.underlying70 rfl Tryz.size16 hHeld ?_
 simp only [Act.put, List.setIfInBounds_toArray, List.set_cons_zero, List.set_cons_succ]
 refine wpAnyH_ready (rs := [6]) (by kernel_rfl) (by simp) ?_
 refine AllReadyH.cons rfl (fun KK hK => ?_) AllReadyH.nil
 go_simp
 refine (imp_added B k0 _).mono ?_
 rintro e w2 ⟨rfl, hb_w2⟩
 have r0a := r0.of_block (hb_w2.block _ r0.lt)
 have r1a := r1.of_block (hb_w2.block _ r1.lt)
 have rca := rc.of_block (hb_w2.block _ rc.lt)
 have rba := (rb.drew).trans (hb_w2.mono rb.size)
 have Sa : w2.rangeAt g 256 (bL 16 k0) := by have h := row_key rca 0 256 (by omega) (by omega); rw [← HK0.out] at h; exact h
 go_wp2_with fail
 refine hK.out _ _ Sa (fun hHeld => ?_)
 clear hK KK
 obtain ⟨e0, he0⟩ : ∃ f, f = fun j => B j ^^^ k0 j := ⟨_, rfl⟩
 rw [← he0]
 have HE0 := hide he0
 clear he0
 have q0 : (w2.setCells w.heap.size 0 (bL 16 e0)).rowIs w.heap.size 70 16 (u8V e0) := row_setCells0 r0a
 have q1 : (w2.setCells w.heap.size 0 (bL 16 e0)).rowIs (w.heap.size + 1) 70 16 (u8V (fun _ => 0)) := row_setCells_other r1a (by omega)
 have qc : (w2.setCells w.heap.size 0 (bL 16 e0)).rowIs g 100 432 (u8V (cipF K)) := row_setCells_other rca (by omega)
 have qb : Below w.heap.size w (w2.setCells w.heap.size 0 (bL 16 e0)) := below_setCells' rba (by omega)
 have th := row_there (o := 0) (n := 16) r0a (by omega)
 have hS3 : (w2.setCells w.heap.size 0 (bL 16 e0)).rangeAt g 256 (bL 16 k0) := by have h := row_key qc 0 256 (by omega) (by omega); rw [← HK0.out] at h; exact h
 refine oneStore (i := 7) none (by kernel_rfl) rfl rfl rfl _ (.tmp 3) (.tmp 12) rfl w.heap.size 0 16 e0 rfl rfl th Tryz.size16 hS3 ?_
 refine wpAnyH_done (by kernel_rfl) ?_ _
 generalize w2.setCells w.heap.size 0 (bL 16 e0) = W2 at *
 clear r0 r1 rc rb r0a r1a rca rba Sa th hS3 hb_w2 g0 g1
 go_wp2_with fail
 go_loopw [13] (fun i wx => ∃ (m : Nat) (f : Nat → UInt8), m ≤ 9 ∧ i = .int .i64 m ∧ Hid (∀ j, j < 16 → f j = encF K B m j) ∧ wx.rowIs w.heap.size 70 16 (u8V f) ∧ wx.rowIs (w.heap.size + 1) 70 16 (u8V fun _ => 0) ∧ wx.rowIs g 100 432 (u8V (cipF K)) ∧ Below w.heap.size w wx) (fun i _ => 9 - (intOf i).toNat)
 case atStart => exact ⟨0, e0, by omega, rfl, fun j _ => by rw [HE0.out, HK0.out]; show B j ^^^ K (16 * 0 + j) = B j ^^^ K j; rw [Nat.mul_zero, Nat.zero_add], q0, q1, qc, qb⟩
 case round =>
  clear q0 q1 qc qb
  obtain ⟨m, f, hm, rfl, hf, r0, r1, rc, rb⟩ := hrel
  by_cases hlt : m < 9
  · have hlt' : (m : Int) < 9 := by omega
    obtain ⟨s, es⟩ : ∃ x, x = m + 1 := ⟨_, rfl⟩
    obtain ⟨o1, eo1⟩ : ∃ x, x = 256 + 16 * s := ⟨_, rfl⟩
    have m1 : IntKind.i64.wrap ((m : Int) + 1) = (s : Int) := w_add (b := 1) es.symm (by omega)
    have m1' : (m : Int) + 1 = (s : Int) := by omega
    have ws : IntKind.i64.wrap (s : Int) = (s : Int) := by simp only [IntKind.wrap_i64]; omega
    have n1 : 256 + 16 * s = o1 := eo1.symm
    have n1' : 256 + s * 16 = o1 := by omega
    have s11 : (s : Int) < 11 := by omega
    have HO := hide (show s < 11 ∧ o1 = 256 + 16 * s from ⟨by omega, eo1⟩)
    have HS := hide es
    obtain ⟨ks, hks⟩ : ∃ k : Nat → UInt8, k = fun j => K (16 * s + j) := ⟨_, rfl⟩
    have g1 := row_key rc s o1 HO.out.1 HO.out.2
    rw [← hks] at g1
    have HKS := hide hks
    have ht : ∀ j, j < 256 → wr.drew.cell? ⟨g, j, none⟩ = some (.int .u8 ((sbox j).toNat : Int)) := fun j hj => by
     have h := rc.drew.cell (i := j) (by omega)
     rw [u8V, cipF, if_pos hj] at h; exact h
    have HT := hide ht
    have g0 := row_range0 r0.drew
    clear hks es eo1 ht
    go_wp2_with fail
    refine wp_region_held_drew (S := fun w' => w'.rangeAt g o1 (bL 16 ks)) (by kernel_rfl) g1 (fun hHeld => ?_)
    refine takeD (i := 0) (v := .pointer (some ⟨g, 0, none⟩)) (some 16) rfl rfl (by kernel_rfl) (by kernel_rfl) (by kernel_rfl) (fun _ _ _ h => h) (Or.inl ⟨by rfl, fun w hSw => by go_simp⟩) hHeld ?_
    simp only [Act.put, List.setIfInBounds_toArray, List.set_cons_zero, List.set_cons_succ]
    refine takeD (i := 4) (v := .pointer (some ⟨g, 0, none⟩)) (some 20) rfl rfl (by kernel_rfl) (by kernel_rfl) (by kernel_rfl) (fun _ _ _ h => h) (Or.inl ⟨by rfl, fun w hSw => by go_simp⟩) hHeld ?_
    simp only [Act.put, List.setIfInBounds_toArray, List.set_cons_zero, List.set_cons_succ]
    refine takeD (i := 5) (v := .int .i64 (m : Int)) (some 21) rfl rfl (by kernel_rfl) (by kernel_rfl) (by kernel_rfl) (fun _ _ _ h => h) (Or.inl ⟨by rfl, fun w hSw => by go_simp⟩) hHeld ?_
    simp only [Act.put, List.setIfInBounds_toArray, List.set_cons_zero, List.set_cons_succ]
    refine takeD (i := 6) (v := .int .i64 (s : Int)) (some 22) rfl rfl (by kernel_rfl) (by kernel_rfl) (by kernel_rfl) (fun _ _ _ h => h) (Or.inl ⟨by rfl, fun w hSw => by go_simp⟩) hHeld ?_
    simp only [Act.put, List.setIfInBounds_toArray, List.set_cons_zero, List.set_cons_succ]
    refine takeD (i := 7) (v := .pointer (some ⟨g, 0, none⟩)) (some 23) rfl rfl (by kernel_rfl) (by kernel_rfl) (by kernel_rfl) (fun _ _ _ h => h) (Or.inl ⟨by rfl, fun w hSw => by go_simp⟩) hHeld ?_
    simp only [Act.put, List.setIfInBounds_toArray, List.set_cons_zero, List.set_cons_succ]
    refine takeD (i := 8) (v := .pointer (some ⟨g, 256, none⟩)) (some 24) rfl rfl (by kernel_rfl) (by kernel_rfl) (by kernel_rfl) (fun _ _ _ h => h) (Or.inl ⟨by rfl, fun w hSw => by go_simp⟩) hHeld ?_
    simp only [Act.put, List.setIfInBounds_toArray, List.set_cons_zero, List.set_cons_succ]
    refine takeD (i := 9) (v := .pointer (some ⟨g, o1, none⟩)) (some 25) rfl rfl (by kernel_rfl) (by kernel_rfl) (by kernel_rfl) (fun _ _ _ h => h) (Or.inl ⟨by rfl, fun w hSw => by go_simp⟩) hHeld ?_
    simp only [Act.put, List.setIfInBounds_toArray, List.set_cons_zero, List.set_cons_succ]
    refine takeD (i := 10) (some 26) rfl rfl (by kernel_rfl) (by kernel_rfl) (by kernel_rfl) (fun _ _ _ h => h) (yieldsB (by rfl) _ (.tmp 25) rfl g o1 16 rfl ks _ (fun _ h => h) Tryz.underlying70 rfl Tryz.size16) hHeld ?_
    simp only [Act.put, List.setIfInBounds_toArray, List.set_cons_zero, List.set_cons_succ]
    refine oneLoad (i := 1) (some 17) (by kernel_rfl) rfl rfl rfl _ (.tmp 3) rfl w.heap.size 0 16 rfl f _ g0 Tryz.underlying70 rfl Tryz.size16 hHeld ?_
    simp only [Act.put, List.setIfInBounds_toArray, List.set_cons_zero, List.set_cons_succ]
    refine wpAnyH_ready (rs := [2]) (by kernel_rfl) (by simp) ?_
    refine AllReadyH.cons rfl (fun KK hK => ?_) AllReadyH.nil
    go_simp
    refine (imp_shifted g f wr.drew rc.lt HT.out).mono ?_
    rintro e w2 ⟨rfl, hb_w2⟩
    have r0a := r0.of_block (hb_w2.block _ r0.lt)
    have r1a := r1.of_block (hb_w2.block _ r1.lt)
    have rca := rc.of_block (hb_w2.block _ rc.lt)
    have rba := (rb.drew).trans (hb_w2.mono rb.size)
    have Sa : w2.rangeAt g o1 (bL 16 ks) := by have h := row_key rca s o1 HO.out.1 HO.out.2; rw [← HKS.out] at h; exact h
    go_wp2_with fail
    refine hK.out _ _ Sa (fun hHeld => ?_)
    clear hK KK
    refine wpAnyH_ready (rs := [3]) (by kernel_rfl) (by simp) ?_
    refine AllReadyH.cons rfl (fun KK hK => ?_) AllReadyH.nil
    go_simp
    refine (imp_columns (subF f) _).mono ?_
    rintro e w3 ⟨rfl, hb_w3⟩
    have r0b := r0a.of_block (hb_w3.block _ r0a.lt)
    have r1b := r1a.of_block (hb_w3.block _ r1a.lt)
    have rcb := rca.of_block (hb_w3.block _ rca.lt)
    have rbb := (rba).trans (hb_w3.mono rba.size)
    have Sb : w3.rangeAt g o1 (bL 16 ks) := by have h := row_key rcb s o1 HO.out.1 HO.out.2; rw [← HKS.out] at h; exact h
    go_wp2_with fail
    refine hK.out _ _ Sb (fun hHeld => ?_)
    clear hK KK
    refine wpAnyH_ready (rs := [11]) (by kernel_rfl) (by simp) ?_
    refine AllReadyH.cons rfl (fun KK hK => ?_) AllReadyH.nil
    go_simp
    refine (imp_added (mixF (subF f)) ks _).mono ?_
    rintro e w4 ⟨rfl, hb_w4⟩
    have r0c := r0b.of_block (hb_w4.block _ r0b.lt)
    have r1c := r1b.of_block (hb_w4.block _ r1b.lt)
    have rcc := rcb.of_block (hb_w4.block _ rcb.lt)
    have rbc := (rbb).trans (hb_w4.mono rbb.size)
    have Sc : w4.rangeAt g o1 (bL 16 ks) := by have h := row_key rcc s o1 HO.out.1 HO.out.2; rw [← HKS.out] at h; exact h
    go_wp2_with fail
    refine hK.out _ _ Sc (fun hHeld => ?_)
    clear hK KK
    obtain ⟨e0, he0⟩ : ∃ h, h = fun j => mixF (subF f) j ^^^ ks j := ⟨_, rfl⟩
    rw [← he0]
    have HE0 := hide he0
    clear he0
    have q0 : (w4.setCells w.heap.size 0 (bL 16 e0)).rowIs w.heap.size 70 16 (u8V e0) := row_setCells0 r0c
    have q1 : (w4.setCells w.heap.size 0 (bL 16 e0)).rowIs (w.heap.size + 1) 70 16 (u8V (fun _ => 0)) := row_setCells_other r1c (by omega)
    have qc : (w4.setCells w.heap.size 0 (bL 16 e0)).rowIs g 100 432 (u8V (cipF K)) := row_setCells_other rcc (by omega)
    have qb : Below w.heap.size w (w4.setCells w.heap.size 0 (bL 16 e0)) := below_setCells' rbc (by omega)
    have th := row_there (o := 0) (n := 16) r0c (by omega)
    have hS3 : (w4.setCells w.heap.size 0 (bL 16 e0)).rangeAt g o1 (bL 16 ks) := by have h := row_key qc s o1 HO.out.1 HO.out.2; rw [← HKS.out] at h; exact h
    refine oneStore (i := 12) none (by kernel_rfl) rfl rfl rfl _ (.tmp 3) (.tmp 27) rfl w.heap.size 0 16 e0 rfl rfl th Tryz.size16 hS3 ?_
    refine wpAnyH_done (by kernel_rfl) ?_ _
    have hf' := hide (show ∀ j, j < 16 → e0 j = encF K B (m + 1) j from fun j hj => by
     rw [HE0.out, HKS.out, HS.out]
     show mixF (subF f) j ^^^ K (16 * (m + 1) + j) = midF (m + 1) (encF K B m) j ^^^ K (16 * (m + 1) + j)
     rw [← midF_congr (m + 1) hf.out j hj, midF, if_pos (by omega)])
    generalize w4.setCells w.heap.size 0 (bL 16 e0) = W4 at *
    clear r0 r1 rc rb r0a r1a rca rba Sa r0b r1b rcb rbb Sb r0c r1c rcc rbc Sc th hS3 hb_w2 hb_w3 hb_w4 g0 g1 m1 m1' ws n1 n1' hf HT
    go_wp2_with fail
    go_roundw
    case rel => exact ⟨m + 1, e0, by omega, by go_num, hf', q0, q1, qc, qb⟩
    case measure => simp [intOf]; omega
  · have hlt' : ¬ (m : Int) < 9 := by omega
    obtain ⟨ks, hks⟩ : ∃ k : Nat → UInt8, k = fun j => K (16 * 10 + j) := ⟨_, rfl⟩
    have g1 := row_key rc 10 416 (by omega) (by omega)
    rw [← hks] at g1
    have HKS := hide hks
    have ht : ∀ j, j < 256 → wr.drew.cell? ⟨g, j, none⟩ = some (.int .u8 ((sbox j).toNat : Int)) := fun j hj => by
     have h := rc.drew.cell (i := j) (by omega)
     rw [u8V, cipF, if_pos hj] at h; exact h
    have HT := hide ht
    have g0 := row_range0 r0.drew
    clear hks ht
    go_wp2_with fail
    refine wp_region_held_drew (S := fun w' => w'.rangeAt g 416 (bL 16 ks)) (by kernel_rfl) g1 (fun hHeld => ?_)
    refine takeD (i := 0) (v := .pointer (some ⟨g, 0, none⟩)) (some 29) rfl rfl (by kernel_rfl) (by kernel_rfl) (by kernel_rfl) (fun _ _ _ h => h) (Or.inl ⟨by rfl, fun w hSw => by go_simp⟩) hHeld ?_
    simp only [Act.put, List.setIfInBounds_toArray, List.set_cons_zero, List.set_cons_succ]
    refine takeD (i := 3) (v := .pointer (some ⟨g, 0, none⟩)) (some 32) rfl rfl (by kernel_rfl) (by kernel_rfl) (by kernel_rfl) (fun _ _ _ h => h) (Or.inl ⟨by rfl, fun w hSw => by go_simp⟩) hHeld ?_
    simp only [Act.put, List.setIfInBounds_toArray, List.set_cons_zero, List.set_cons_succ]
    refine takeD (i := 4) (v := .pointer (some ⟨g, 0, none⟩)) (some 33) rfl rfl (by kernel_rfl) (by kernel_rfl) (by kernel_rfl) (fun _ _ _ h => h) (Or.inl ⟨by rfl, fun w hSw => by go_simp⟩) hHeld ?_
    simp only [Act.put, List.setIfInBounds_toArray, List.set_cons_zero, List.set_cons_succ]
    refine takeD (i := 5) (v := .pointer (some ⟨g, 256, none⟩)) (some 34) rfl rfl (by kernel_rfl) (by kernel_rfl) (by kernel_rfl) (fun _ _ _ h => h) (Or.inl ⟨by rfl, fun w hSw => by go_simp⟩) hHeld ?_
    simp only [Act.put, List.setIfInBounds_toArray, List.set_cons_zero, List.set_cons_succ]
    refine takeD (i := 6) (v := .pointer (some ⟨g, 416, none⟩)) (some 35) rfl rfl (by kernel_rfl) (by kernel_rfl) (by kernel_rfl) (fun _ _ _ h => h) (Or.inl ⟨by rfl, fun w hSw => by go_simp⟩) hHeld ?_
    simp only [Act.put, List.setIfInBounds_toArray, List.set_cons_zero, List.set_cons_succ]
    refine takeD (i := 7) (some 36) rfl rfl (by kernel_rfl) (by kernel_rfl) (by kernel_rfl) (fun _ _ _ h => h) (yieldsB (by rfl) _ (.tmp 35) rfl g 416 16 rfl ks _ (fun _ h => h) Tryz.underlying70 rfl Tryz.size16) hHeld ?_
    simp only [Act.put, List.setIfInBounds_toArray, List.set_cons_zero, List.set_cons_succ]
    refine oneLoad (i := 1) (some 30) (by kernel_rfl) rfl rfl rfl _ (.tmp 3) rfl w.heap.size 0 16 rfl f _ g0 Tryz.underlying70 rfl Tryz.size16 hHeld ?_
    simp only [Act.put, List.setIfInBounds_toArray, List.set_cons_zero, List.set_cons_succ]
    refine wpAnyH_ready (rs := [2]) (by kernel_rfl) (by simp) ?_
    refine AllReadyH.cons rfl (fun KK hK => ?_) AllReadyH.nil
    go_simp
    refine (imp_shifted g f wr.drew rc.lt HT.out).mono ?_
    rintro e w2 ⟨rfl, hb_w2⟩
    have r0a := r0.of_block (hb_w2.block _ r0.lt)
    have r1a := r1.of_block (hb_w2.block _ r1.lt)
    have rca := rc.of_block (hb_w2.block _ rc.lt)
    have rba := (rb.drew).trans (hb_w2.mono rb.size)
    have Sa : w2.rangeAt g 416 (bL 16 ks) := by have h := row_key rca 10 416 (by omega) (by omega); rw [← HKS.out] at h; exact h
    go_wp2_with fail
    refine hK.out _ _ Sa (fun hHeld => ?_)
    clear hK KK
    refine wpAnyH_ready (rs := [8]) (by kernel_rfl) (by simp) ?_
    refine AllReadyH.cons rfl (fun KK hK => ?_) AllReadyH.nil
    go_simp
    refine (imp_added (subF f) ks _).mono ?_
    rintro e w3 ⟨rfl, hb_w3⟩
    have r0b := r0a.of_block (hb_w3.block _ r0a.lt)
    have r1b := r1a.of_block (hb_w3.block _ r1a.lt)
    have rcb := rca.of_block (hb_w3.block _ rca.lt)
    have rbb := (rba).trans (hb_w3.mono rba.size)
    have Sb : w3.rangeAt g 416 (bL 16 ks) := by have h := row_key rcb 10 416 (by omega) (by omega); rw [← HKS.out] at h; exact h
    go_wp2_with fail
    refine hK.out _ _ Sb (fun hHeld => ?_)
    clear hK KK
    obtain ⟨e0, he0⟩ : ∃ h, h = fun j => subF f j ^^^ ks j := ⟨_, rfl⟩
    rw [← he0]
    have HE0 := hide he0
    clear he0
    have q0 : (w3.setCells (w.heap.size + 1) 0 (bL 16 e0)).rowIs w.heap.size 70 16 (u8V f) := row_setCells_other r0b (by omega)
    have q1 : (w3.setCells (w.heap.size + 1) 0 (bL 16 e0)).rowIs (w.heap.size + 1) 70 16 (u8V e0) := row_setCells0 r1b
    have qc : (w3.setCells (w.heap.size + 1) 0 (bL 16 e0)).rowIs g 100 432 (u8V (cipF K)) := row_setCells_other rcb (by omega)
    have qb : Below w.heap.size w (w3.setCells (w.heap.size + 1) 0 (bL 16 e0)) := below_setCells' rbb (by omega)
    have th := row_there (o := 0) (n := 16) r1b (by omega)
    have hS3 : (w3.setCells (w.heap.size + 1) 0 (bL 16 e0)).rangeAt g 416 (bL 16 ks) := by have h := row_key qc 10 416 (by omega) (by omega); rw [← HKS.out] at h; exact h
    refine oneStore (i := 9) none (by kernel_rfl) rfl rfl rfl _ (.tmp 4) (.tmp 37) rfl (w.heap.size + 1) 0 16 e0 rfl rfl th Tryz.size16 hS3 ?_
    refine wpAnyH_done (by kernel_rfl) ?_ _
    have hf' := hide (show ∀ j, j < 16 → e0 j = encF K B 10 j from fun j hj => by
     have hm9 : m = 9 := by omega
     subst hm9
     rw [HE0.out, HKS.out]
     show subF f j ^^^ K (16 * 10 + j) = midF 10 (encF K B 9) j ^^^ K (16 * (9 + 1) + j)
     rw [← midF_congr 10 hf.out j hj, midF, if_neg (by omega)])
    have q1' := q1.congr (g := u8V (encF K B 10)) (fun i hi => by rw [u8V, u8V, hf'.out i hi])
    generalize w3.setCells (w.heap.size + 1) 0 (bL 16 e0) = W4 at *
    clear r0 r1 rc rb r0a r1a rca rba Sa r0b r1b rcb rbb Sb th hS3 hb_w2 hb_w3 g0 g1 hf HT q0 q1
    go_wp2_with fail
    exact bodyPost_ret (ret_B Tryz.results50 _ _ (w.heap.size + 1) 16 _ _ _ rfl q1' Tryz.underlying70 rfl Tryz.size16) rfl ⟨rfl, qb⟩
end Go.Proofs.YtconcnndghmdfaaGreatDoor
namespace Go.Proofs.YtconcnndghmdfaaGreatDoor
open Go.RowKit
attribute [local irreducible] times sbox dbl dU
theorem ctrB_hi (N m j : Nat) (f : Nat → UInt8) : (if 8 ≤ j ∧ j < 8 + 8 then hiB m (j - 8) else if 0 ≤ j ∧ j < 0 + 8 then hiB N (j - 0) else f j) = if j < 16 then ctrB N m j else f j := by
 by_cases h : j < 8
 · rw [if_neg (by omega), if_pos ⟨by omega, by omega⟩, if_pos (by omega), ctrB, if_pos h, hiB, show 56 - 8 * (j - 0) = 8 * (7 - j) by omega]
 · by_cases h2 : j < 16
   · rw [if_pos ⟨by omega, by omega⟩, if_pos h2, ctrB, if_neg h, hiB, show 56 - 8 * (j - 8) = 8 * (15 - j) by omega]
   · rw [if_neg (by omega), if_neg (by omega), if_neg h2]
set_option maxRecDepth 100000 in
set_option maxHeartbeats 6400000 in
theorem imp_counted (N m : Nat) (w : World) (hN : N ≤ 9223372036854775807) (hm : m ≤ 9223372036854775807) :
 Calls Tryz.prog 51 #[.int .i64 (N : Int), .int .i64 (m : Int)] w fun e w' => e = .returned (.agg (bL 16 (ctrB N m)).toArray) ∧ Below w.heap.size w w' := by
 have hN' : (N : Int) ≤ 9223372036854775807 := by omega
 have hm' : (m : Int) ≤ 9223372036854775807 := by omega
 have HH := hide (And.intro (fun w => imp_highest N w hN) (fun w => imp_highest m w hm))
 go_enter Tryz.func51, Tryz.ntmps51
 go_wp2_with fail
 refine (HH.out.1 _).mono ?_
 rintro e w1 ⟨rfl, hb1⟩
 have z0 := (zeros8_row 16 w (List.replicate 16 (Value.int .u8 0)).toArray 70 rfl)
 have z1 := z0.of_block (hb1.block _ z0.lt)
 have b1 := ((Below.refl w.heap.size w).alloc (Nat.le_refl _) (.cells (List.replicate 16 (Value.int .u8 0)).toArray 70)).trans (hb1.mono (by simp))
 clear z0 hb1
 go_wp2_with fail
 refine (HH.out.2 _).mono ?_
 rintro e w2 ⟨rfl, hb2⟩
 have z2 := z1.of_block (hb2.block _ z1.lt)
 have b2 := b1.trans (hb2.mono b1.size)
 clear z1 hb2 b1
 have hs2 := b2.size
 have hl2 := z2.lt
 have p0 : ((w2.alloc (.cells #[Value.int .u8 0, Value.int .u8 0, Value.int .u8 0, Value.int .u8 0, Value.int .u8 0, Value.int .u8 0, Value.int .u8 0, Value.int .u8 0] 105)).alloc (.cells #[Value.int .u8 0, Value.int .u8 0, Value.int .u8 0, Value.int .u8 0, Value.int .u8 0, Value.int .u8 0, Value.int .u8 0, Value.int .u8 0] 105)).rowIs w2.heap.size 105 8 (u8V fun _ => 0) := (zeros8_row 8 w2 #[Value.int .u8 0, Value.int .u8 0, Value.int .u8 0, Value.int .u8 0, Value.int .u8 0, Value.int .u8 0, Value.int .u8 0, Value.int .u8 0] 105 rfl).alloc _
 have p1 : ((w2.alloc (.cells #[Value.int .u8 0, Value.int .u8 0, Value.int .u8 0, Value.int .u8 0, Value.int .u8 0, Value.int .u8 0, Value.int .u8 0, Value.int .u8 0] 105)).alloc (.cells #[Value.int .u8 0, Value.int .u8 0, Value.int .u8 0, Value.int .u8 0, Value.int .u8 0, Value.int .u8 0, Value.int .u8 0, Value.int .u8 0] 105)).rowIs (w2.heap.size + 1) 105 8 (u8V fun _ => 0) := by
  have h := zeros8_row 8 (w2.alloc (.cells #[Value.int .u8 0, Value.int .u8 0, Value.int .u8 0, Value.int .u8 0, Value.int .u8 0, Value.int .u8 0, Value.int .u8 0, Value.int .u8 0] 105)) #[Value.int .u8 0, Value.int .u8 0, Value.int .u8 0, Value.int .u8 0, Value.int .u8 0, Value.int .u8 0, Value.int .u8 0, Value.int .u8 0] 105 rfl
  rw [World.size_alloc] at h; exact h
 have p2 : ((w2.alloc (.cells #[Value.int .u8 0, Value.int .u8 0, Value.int .u8 0, Value.int .u8 0, Value.int .u8 0, Value.int .u8 0, Value.int .u8 0, Value.int .u8 0] 105)).alloc (.cells #[Value.int .u8 0, Value.int .u8 0, Value.int .u8 0, Value.int .u8 0, Value.int .u8 0, Value.int .u8 0, Value.int .u8 0, Value.int .u8 0] 105)).rowIs w.heap.size 70 16 (u8V fun _ => 0) := (z2.alloc _).alloc _
 have pb : Below w.heap.size w ((w2.alloc (.cells #[Value.int .u8 0, Value.int .u8 0, Value.int .u8 0, Value.int .u8 0, Value.int .u8 0, Value.int .u8 0, Value.int .u8 0, Value.int .u8 0] 105)).alloc (.cells #[Value.int .u8 0, Value.int .u8 0, Value.int .u8 0, Value.int .u8 0, Value.int .u8 0, Value.int .u8 0, Value.int .u8 0, Value.int .u8 0] 105)) := (b2.alloc b2.size _).alloc (by rw [World.size_alloc]; omega) _
 have psz : ((w2.alloc (.cells #[Value.int .u8 0, Value.int .u8 0, Value.int .u8 0, Value.int .u8 0, Value.int .u8 0, Value.int .u8 0, Value.int .u8 0, Value.int .u8 0] 105)).alloc (.cells #[Value.int .u8 0, Value.int .u8 0, Value.int .u8 0, Value.int .u8 0, Value.int .u8 0, Value.int .u8 0, Value.int .u8 0, Value.int .u8 0] 105)).heap.size = w2.heap.size + 2 := by rw [World.size_alloc, World.size_alloc]
 have hst1 := run_stB (P := Tryz.prog) (k := hiB N) (row_there (o := 0) (n := 8) p0 (by omega))
 have p0' := row_setCells0 (k := hiB N) p0
 have p1' := row_setCells_other (b := w2.heap.size) (o := 0) (vs := bL 8 (hiB N)) p1 (by omega)
 have p2' := row_setCells_other (b := w2.heap.size) (o := 0) (vs := bL 8 (hiB N)) p2 (by omega)
 have pb' := below_setCells' (b := w2.heap.size) (o := 0) (vs := bL 8 (hiB N)) pb hs2
 have hst2 := run_stB (P := Tryz.prog) (k := hiB m) (row_there (o := 0) (n := 8) p1' (by omega))
 have q0 := row_setCells_other (b := w2.heap.size + 1) (o := 0) (vs := bL 8 (hiB m)) p0' (by omega)
 have q1 := row_setCells0 (k := hiB m) p1'
 have q2 := row_setCells_other (b := w2.heap.size + 1) (o := 0) (vs := bL 8 (hiB m)) p2' (by omega)
 have qb := below_setCells' (b := w2.heap.size + 1) (o := 0) (vs := bL 8 (hiB m)) pb' (by omega)
 have qs := hide (show ((((w2.alloc (.cells #[Value.int .u8 0, Value.int .u8 0, Value.int .u8 0, Value.int .u8 0, Value.int .u8 0, Value.int .u8 0, Value.int .u8 0, Value.int .u8 0] 105)).alloc (.cells #[Value.int .u8 0, Value.int .u8 0, Value.int .u8 0, Value.int .u8 0, Value.int .u8 0, Value.int .u8 0, Value.int .u8 0, Value.int .u8 0] 105)).setCells w2.heap.size 0 (bL 8 (hiB N))).setCells (w2.heap.size + 1) 0 (bL 8 (hiB m))).heap.size = w2.heap.size + 2 by rw [size_setCells, size_setCells, psz])
 have Q := hide (And.intro q0 (And.intro q1 (And.intro q2 qb)))
 have ln : (bL 8 (hiB N)).length = 8 := bL_len 8 _
 have lm : (bL 8 (hiB m)).length = 8 := bL_len 8 _
 clear psz p0 p1 p2 pb p0' p1' p2' pb' z2 b2 q0 q1 q2 qb
 obtain ⟨A, hA⟩ : ∃ A, A = hiB N := ⟨_, rfl⟩
 obtain ⟨B, hB⟩ : ∃ B, B = hiB m := ⟨_, rfl⟩
 rw [← hA] at Q ln hst1 hst2 qs ⊢
 rw [← hB] at Q lm hst2 qs ⊢
 have HA := hide hA
 have HB := hide hB
 clear hA hB
 go_wp2_with fail
 clear hst1 hst2
 generalize (((w2.alloc (.cells #[Value.int .u8 0, Value.int .u8 0, Value.int .u8 0, Value.int .u8 0, Value.int .u8 0, Value.int .u8 0, Value.int .u8 0, Value.int .u8 0] 105)).alloc (.cells #[Value.int .u8 0, Value.int .u8 0, Value.int .u8 0, Value.int .u8 0, Value.int .u8 0, Value.int .u8 0, Value.int .u8 0, Value.int .u8 0] 105)).setCells w2.heap.size 0 (bL 8 A)).setCells (w2.heap.size + 1) 0 (bL 8 B) = W3 at *
 obtain ⟨W4, hW4⟩ : ∃ x, x = W3.alloc (.cells #[Value.int .u8 0, Value.int .u8 0, Value.int .u8 0, Value.int .u8 0, Value.int .u8 0, Value.int .u8 0, Value.int .u8 0, Value.int .u8 0, Value.int .u8 0, Value.int .u8 0, Value.int .u8 0, Value.int .u8 0, Value.int .u8 0, Value.int .u8 0, Value.int .u8 0, Value.int .u8 0] 70) := ⟨_, rfl⟩
 obtain ⟨q0, q1, q2, qb⟩ := Q.out
 have hs3 := qs.out
 have r0 : W4.rowIs w2.heap.size 105 8 (u8V A) := by rw [hW4]; exact q0.alloc _
 have r1 : W4.rowIs (w2.heap.size + 1) 105 8 (u8V B) := by rw [hW4]; exact q1.alloc _
 have r2 : W4.rowIs w.heap.size 70 16 (u8V fun _ => 0) := by rw [hW4]; exact q2.alloc _
 have r3 : W4.rowIs W3.heap.size 70 16 (u8V fun _ => 0) := by rw [hW4]; exact zeros8_row 16 W3 _ _ rfl
 have rb : Below w.heap.size w W4 := by rw [hW4]; exact qb.alloc qb.size _
 rw [← hW4]
 generalize hz3 : W3.heap.size = z at *
 have hz2 : w2.heap.size + 1 < z := by omega
 clear hW4 q0 q1 q2 qb Q hz3 ln lm qs HH hs3
 have hmin := hide (show 8 = Nat.min 8 16 from rfl)
 have hrg := row_range0 (w := W4.drew) r0
 have hth := row_there (w := W4.drew) (o := 0) (n := 8) r3 (by omega)
 go_region_held_law (fun _ => True) (trivial) (refine step_copy_BD (some 16) rfl rfl (.tmp 14) (.tmp 15) 22 22 rfl 5 Tryz.underlying22 (by kernel_rfl) z 0 16 16 w2.heap.size 0 8 8 rfl rfl 8 A hmin.out hrg hth ?_)
 have s1 := row_setCells_other (b := z) (o := 0) (vs := bL 8 A) r1.drew (by omega)
 have s2 := row_setCells_other (b := z) (o := 0) (vs := bL 8 A) r2.drew (by omega)
 have s3 := row_setCells (o := 0) (n := 8) (k := A) r3.drew (by omega)
 have sb := below_setCells' (b := z) (o := 0) (vs := bL 8 A) rb.drew (by omega)
 generalize W4.drew.setCells z 0 (bL 8 A) = W5 at *
 clear r0 r1 r2 r3 rb hrg hth hmin
 have hmin := hide (show 8 = Nat.min 8 (16 - 8) from rfl)
 have hrg := row_range0 (w := W5.drew) s1
 have hth := row_there (w := W5.drew) (o := 8) (n := 8) s3 (by omega)
 go_wp2_with fail
 go_region_held_law (fun _ => True) (trivial) (refine step_copy_BD (some 19) rfl rfl (.tmp 17) (.tmp 18) 22 22 rfl 5 Tryz.underlying22 (by kernel_rfl) z 8 8 8 (w2.heap.size + 1) 0 8 8 rfl rfl 8 B hmin.out hrg hth ?_)
 have t2 := row_setCells_other (b := z) (o := 8) (vs := bL 8 B) s2.drew (by omega)
 have t3 := (row_setCells (o := 8) (n := 8) (k := B) s3.drew (by omega)).congr (g := u8V (ctrB N m)) (fun i hi => by
  have h := ctrB_hi N m i (fun _ => 0)
  rw [if_pos hi] at h
  rw [u8V, u8V, HA.out, HB.out, ← h])
 have tb := below_setCells' (b := z) (o := 8) (vs := bL 8 B) sb.drew (by omega)
 generalize W5.drew.setCells z 8 (bL 8 B) = W6 at *
 clear s1 s2 s3 sb hrg hth hmin
 have hth := row_there (o := 0) (n := 16) t2 (by omega)
 have hfin := row_setCells0 (k := ctrB N m) t2
 go_wp2_with (first | (refine wpList_load_B rfl 70 (.tmp 7) rfl z 0 rfl _ _ 16 _ (ctrB N m) _ t3 (by omega) (fun j _ => by rw [Nat.zero_add]) Tryz.underlying70 rfl Tryz.size16 ?_) | (refine wpList_store_B rfl 70 (.tmp 4) (.tmp 20) rfl w.heap.size 0 16 (ctrB N m) rfl rfl hth Tryz.size16 ?_))
 exact bodyPost_ret (ret_B Tryz.results51 _ _ w.heap.size 16 _ _ _ rfl hfin Tryz.underlying70 rfl Tryz.size16) rfl ⟨rfl, below_setCells' tb (Nat.le_refl _)⟩
end Go.Proofs.YtconcnndghmdfaaGreatDoor
