/- Put together: SealPc, SealPd, SealPb, OpW, SealPx, SealHd. -/
import Derived.Test.YtconcnndghmdfaaGreatDoorSd19
import Derived.Test.YtconcnndghmdfaaGreatDoorSd37
import Derived.Test.YtconcnndghmdfaaGreatDoorSd16
import Derived.Defers
import Derived.Recover
namespace Go.Proofs.YtconcnndghmdfaaGreatDoor
open Go.RowKit
set_option maxRecDepth 100000 in
set_option maxHeartbeats 16000000 in
theorem imp_sealGoodF (H M : ByteArray) (id far : Int) (t : ByteArray) (w : World) (htab : Tab w) (hk : keysOk (H, M) = true) (h0 : 0 ≤ id) (h1 : id ≤ 2000000) (h2 : 0 ≤ far) (h3 : far ≤ 256) (ht : t.size ≤ 4000) (hf0 : 0 < far) :
 Calls Tryz.prog 7 #[.agg #[.string H, .string M], .int .i64 id, .int .i64 far, .string t] w fun e w' => e = .returned (.string (sealB (H, M) id far t)) ∧ Below w.heap.size w w' := by
 obtain ⟨hH, hM⟩ : H.size = 16 ∧ M.size = 32 := by unfold keysOk at hk; simpa using hk
 have hi : idOk id = true := by unfold idOk; simp; omega
 have hr : farOk10 far = true := by unfold farOk10; simp; omega
 have SK := hide (fun W => by have h := imp_keysRight H M W; rw [hk] at h; exact h)
 have SI := hide (fun W => by have h := imp_idRight id W; rw [hi] at h; exact h)
 have SR := hide (fun W => by have h := imp_farRight far W; rw [hr] at h; exact h)
 clear hi hr hk
 obtain ⟨N, rfl⟩ := Int.eq_ofNat_of_zero_le h0
 obtain ⟨F, rfl⟩ := Int.eq_ofNat_of_zero_le h2
 have d4 : ¬ (4000 : Int) < (t.size : Int) := by omega
 have d5 : decide ((4000 : Int) < (t.size : Int)) = false := decide_eq_false d4
 have hsz := sealT_size (H, M) (N : Int) (F : Int) t h0 h1 h2 h3 ht
 have hp := packB_few (difB t (F : Int)) (by rw [difB_size]; exact ht)
 have hds : (difB t (F : Int)).size ≤ 4000 := by rw [difB_size]; exact ht
 have hpk : packS (difB t (F : Int)) = packB (difB t (F : Int)) := if_pos hds
 obtain ⟨num, hnum⟩ : ∃ f : Int → ByteArray, f = fun n => ⟨(encNum (foldNum n)).toArray⟩ := ⟨_, rfl⟩
 have SN0 : ∀ (n : Int) (W : World), 0 ≤ n → n ≤ 2000000 → Calls Tryz.prog 28 #[.int .i64 n] W fun e w' => e = .returned (.string (num n)) ∧ Below W.heap.size W w' := fun n W a b => by rw [hnum]; exact impl_putNum n W (by omega) (by omega)
 have SN := hide SN0
 clear SN0
 have SP0 : ∀ W : World, Calls Tryz.prog 30 #[.string (difB t (F : Int))] W fun e w' => e = .returned (.string (packB (difB t (F : Int)))) ∧ Below W.heap.size W w' := fun W => by have h := imp_pack (difB t (F : Int)) W (by omega); rw [hpk] at h; exact h
 have SP := hide SP0
 clear SP0
 have SC := hide (fun W => imp_ctrA H (packB (difB t (F : Int))) N W hH (by omega) (by omega))
 have E := hide (show sealB (H, M) (N : Int) (F : Int) t = sealT (H, M) (N : Int) (F : Int) t ++ take16 (macT M (sealT (H, M) (N : Int) (F : Int) t)) from rfl)
 have ET := hide (show sealT (H, M) (N : Int) (F : Int) t = (num (N : Int) ++ num (F : Int)) ++ ⟨(ctrL (kB (keyF H)) N (bF (packB (difB t (F : Int)))) (packB (difB t (F : Int))).size).toArray⟩ by rw [hnum]; rfl)
 have HT := hide htab
 clear hnum hpk htab
 obtain ⟨D, hD⟩ : ∃ D, D = difB t (F : Int) := ⟨_, rfl⟩
 rw [← hD] at SP SC ET
 have HD := hide hD
 generalize packB D = PD at *
 generalize (⟨(ctrL (kB (keyF H)) N (bF PD) PD.size).toArray⟩ : ByteArray) = C at *
 generalize sealB (H, M) (N : Int) (F : Int) t = Z at *
 generalize sealT (H, M) (N : Int) (F : Int) t = T at *
 have SX0 : ∀ (B : Nat) (W : World), Below w.heap.size w W → W.heap[B]? = some (.cells #[.string (num (N : Int)), .string (num (F : Int)), .string C] 9 (0, 0)) →
  Calls Tryz.prog 27 #[.agg #[.string H, .string M], .slice (some ⟨B, 0, none⟩) 3 3] W fun e w' => e = .returned (.string Z) ∧ Below W.heap.size W w' := fun B W hl hc => by
  have h := imp_sealed H M (num (N : Int)) (num (F : Int)) C B W (by omega) (by rw [← ET.out]; omega) (HT.out.low hl) hc
  rw [← ET.out, ← E.out] at h
  exact h
 have SX := hide SX0
 clear SX0
 clear ET E HT hsz hp hds hD
 have DN := hide (show ¬ (0 : Int) < (F : Int) → D = t from fun h => HD.out.trans (if_neg h))
 have hf : (0 : Int) < (F : Int) := hf0
 · have SD0 : ∀ W : World, Calls Tryz.prog 26 #[.string t, .int .i64 (F : Int)] W fun e w' => e = .returned (.string D) ∧ Below W.heap.size W w' := fun W => by
    have h := imp_differ t (F : Int) W (by omega)
    have hfo : farOk t (F : Int) := ⟨by omega, by omega, by omega⟩
    rw [show differS t (F : Int) = D from (if_pos hfo).trans (HD.out.trans (if_pos hf)).symm] at h
    exact h
   have SD := hide SD0
   clear SD0
   clear HD DN
   go_enter Tryz.func7, Tryz.ntmps7
   go_wp2_with fail
   refine (SK.out _).mono ?_
   rintro e w1 ⟨rfl, hb1⟩
   have HB := KeyW.one hb1
   have c0 := HB.c0
   have c1 := HB.c1
   clear hb1 SK
   go_wp2_with fail
   refine (SI.out _).mono ?_
   rintro e w2 ⟨rfl, hb2⟩
   have HB := HB.call hb2
   have c0 := HB.c0
   have c1 := HB.c1
   clear hb2 SI
   go_wp2_with fail
   refine (SR.out _).mono ?_
   rintro e w3 ⟨rfl, hb3⟩
   have HB := HB.call hb3
   have c0 := HB.c0
   have c1 := HB.c1
   clear hb3 SR
   go_wp2_with fail
   refine (SD.out _).mono ?_
   rintro e w4 ⟨rfl, hb4⟩
   have HB := HB.call hb4
   have c0 := HB.c0
   have c1 := HB.c1
   clear hb4 SD
   go_wp2_with fail
   go_region_held3 (fun W' => W'.cell? ⟨w.heap.size, 0, none⟩ = some (.string H) ∧ W'.cell? ⟨w.heap.size, 1, none⟩ = some (.string M)) (first | exact ⟨c0, c1⟩ | exact ⟨HB.drew.c0, HB.drew.c1⟩ | exact ⟨a0, a1⟩ | exact ⟨(HB.alloc _).c0, (HB.alloc _).c1⟩ | go_keep) (first | (go_at_call 28; refine (SN.out _ _ (by omega) (by omega)).mono ?_; rintro e w2 ⟨rfl, hb2⟩; have HB := (show KeyW w H M w2 by first | exact HB.call hb2 | exact HB.call' hb2); have c0 := HB.c0; have c1 := HB.c1; clear hb2) | (go_at_call 30; refine (SP.out _).mono ?_; rintro e w2 ⟨rfl, hb2⟩; have HB := (show KeyW w H M w2 by first | exact HB.call hb2 | exact HB.call' hb2); have c0 := HB.c0; have c1 := HB.c1; clear hb2) | (go_at_call 29; refine (SC.out _).mono ?_; rintro e w2 ⟨rfl, hb2⟩; have HB := (show KeyW w H M w2 by first | exact HB.call hb2 | exact HB.call' hb2); have c0 := HB.c0; have c1 := HB.c1; clear hb2; have HA := HB.alloc (.cells #[.string (num (N : Int)), .string (num (F : Int)), .string C] 9); have a0 := HA.c0; have a1 := HA.c1; clear HA) | (go_at_call 27; refine (SX.out _ _ (by first | exact HB.low.alloc HB.low.size _ | exact (HB.low.alloc HB.low.size _).drew | exact HB.low.drew.alloc HB.low.drew.size _) (by first | exact heap_alloc_new _ _ | simp)).mono ?_; rintro e w2 ⟨rfl, hb2⟩; have HB := (show KeyW w H M w2 by first | exact (HB.alloc _).call hb2 | exact (HB.alloc _).call' hb2); have c0 := HB.c0; have c1 := HB.c1; clear hb2))
   all_goals (
    go_wp2_with fail
    go_ret
    exact ⟨rfl, HB.low⟩)
set_option maxRecDepth 100000 in
set_option maxHeartbeats 16000000 in
theorem imp_sealGoodN (H M : ByteArray) (id far : Int) (t : ByteArray) (w : World) (htab : Tab w) (hk : keysOk (H, M) = true) (h0 : 0 ≤ id) (h1 : id ≤ 2000000) (h2 : 0 ≤ far) (h3 : far ≤ 256) (ht : t.size ≤ 4000) (hf0 : ¬ 0 < far) :
 Calls Tryz.prog 7 #[.agg #[.string H, .string M], .int .i64 id, .int .i64 far, .string t] w fun e w' => e = .returned (.string (sealB (H, M) id far t)) ∧ Below w.heap.size w w' := by
 obtain ⟨hH, hM⟩ : H.size = 16 ∧ M.size = 32 := by unfold keysOk at hk; simpa using hk
 have hi : idOk id = true := by unfold idOk; simp; omega
 have hr : farOk10 far = true := by unfold farOk10; simp; omega
 have SK := hide (fun W => by have h := imp_keysRight H M W; rw [hk] at h; exact h)
 have SI := hide (fun W => by have h := imp_idRight id W; rw [hi] at h; exact h)
 have SR := hide (fun W => by have h := imp_farRight far W; rw [hr] at h; exact h)
 clear hi hr hk
 obtain ⟨N, rfl⟩ := Int.eq_ofNat_of_zero_le h0
 obtain ⟨F, rfl⟩ := Int.eq_ofNat_of_zero_le h2
 have d4 : ¬ (4000 : Int) < (t.size : Int) := by omega
 have d5 : decide ((4000 : Int) < (t.size : Int)) = false := decide_eq_false d4
 have hsz := sealT_size (H, M) (N : Int) (F : Int) t h0 h1 h2 h3 ht
 have hp := packB_few (difB t (F : Int)) (by rw [difB_size]; exact ht)
 have hds : (difB t (F : Int)).size ≤ 4000 := by rw [difB_size]; exact ht
 have hpk : packS (difB t (F : Int)) = packB (difB t (F : Int)) := if_pos hds
 obtain ⟨num, hnum⟩ : ∃ f : Int → ByteArray, f = fun n => ⟨(encNum (foldNum n)).toArray⟩ := ⟨_, rfl⟩
 have SN0 : ∀ (n : Int) (W : World), 0 ≤ n → n ≤ 2000000 → Calls Tryz.prog 28 #[.int .i64 n] W fun e w' => e = .returned (.string (num n)) ∧ Below W.heap.size W w' := fun n W a b => by rw [hnum]; exact impl_putNum n W (by omega) (by omega)
 have SN := hide SN0
 clear SN0
 have SP0 : ∀ W : World, Calls Tryz.prog 30 #[.string (difB t (F : Int))] W fun e w' => e = .returned (.string (packB (difB t (F : Int)))) ∧ Below W.heap.size W w' := fun W => by have h := imp_pack (difB t (F : Int)) W (by omega); rw [hpk] at h; exact h
 have SP := hide SP0
 clear SP0
 have SC := hide (fun W => imp_ctrA H (packB (difB t (F : Int))) N W hH (by omega) (by omega))
 have E := hide (show sealB (H, M) (N : Int) (F : Int) t = sealT (H, M) (N : Int) (F : Int) t ++ take16 (macT M (sealT (H, M) (N : Int) (F : Int) t)) from rfl)
 have ET := hide (show sealT (H, M) (N : Int) (F : Int) t = (num (N : Int) ++ num (F : Int)) ++ ⟨(ctrL (kB (keyF H)) N (bF (packB (difB t (F : Int)))) (packB (difB t (F : Int))).size).toArray⟩ by rw [hnum]; rfl)
 have HT := hide htab
 clear hnum hpk htab
 obtain ⟨D, hD⟩ : ∃ D, D = difB t (F : Int) := ⟨_, rfl⟩
 rw [← hD] at SP SC ET
 have HD := hide hD
 generalize packB D = PD at *
 generalize (⟨(ctrL (kB (keyF H)) N (bF PD) PD.size).toArray⟩ : ByteArray) = C at *
 generalize sealB (H, M) (N : Int) (F : Int) t = Z at *
 generalize sealT (H, M) (N : Int) (F : Int) t = T at *
 have SX0 : ∀ (B : Nat) (W : World), Below w.heap.size w W → W.heap[B]? = some (.cells #[.string (num (N : Int)), .string (num (F : Int)), .string C] 9 (0, 0)) →
  Calls Tryz.prog 27 #[.agg #[.string H, .string M], .slice (some ⟨B, 0, none⟩) 3 3] W fun e w' => e = .returned (.string Z) ∧ Below W.heap.size W w' := fun B W hl hc => by
  have h := imp_sealed H M (num (N : Int)) (num (F : Int)) C B W (by omega) (by rw [← ET.out]; omega) (HT.out.low hl) hc
  rw [← ET.out, ← E.out] at h
  exact h
 have SX := hide SX0
 clear SX0
 clear ET E HT hsz hp hds hD
 have DN := hide (show ¬ (0 : Int) < (F : Int) → D = t from fun h => HD.out.trans (if_neg h))
 have hf : ¬ (0 : Int) < (F : Int) := hf0
 · have e := DN.out hf
   subst e
   clear HD DN
   go_enter Tryz.func7, Tryz.ntmps7
   go_wp2_with fail
   refine (SK.out _).mono ?_
   rintro e w1 ⟨rfl, hb1⟩
   have HB := KeyW.one hb1
   have c0 := HB.c0
   have c1 := HB.c1
   clear hb1 SK
   go_wp2_with fail
   refine (SI.out _).mono ?_
   rintro e w2 ⟨rfl, hb2⟩
   have HB := HB.call hb2
   have c0 := HB.c0
   have c1 := HB.c1
   clear hb2 SI
   go_wp2_with fail
   refine (SR.out _).mono ?_
   rintro e w3 ⟨rfl, hb3⟩
   have HB := HB.call hb3
   have c0 := HB.c0
   have c1 := HB.c1
   clear hb3 SR
   go_wp2_with fail
   go_region_held3 (fun W' => W'.cell? ⟨w.heap.size, 0, none⟩ = some (.string H) ∧ W'.cell? ⟨w.heap.size, 1, none⟩ = some (.string M)) (first | exact ⟨c0, c1⟩ | exact ⟨HB.drew.c0, HB.drew.c1⟩ | exact ⟨a0, a1⟩ | exact ⟨(HB.alloc _).c0, (HB.alloc _).c1⟩ | go_keep) (first | (go_at_call 28; refine (SN.out _ _ (by omega) (by omega)).mono ?_; rintro e w2 ⟨rfl, hb2⟩; have HB := (show KeyW w H M w2 by first | exact HB.call hb2 | exact HB.call' hb2); have c0 := HB.c0; have c1 := HB.c1; clear hb2) | (go_at_call 30; refine (SP.out _).mono ?_; rintro e w2 ⟨rfl, hb2⟩; have HB := (show KeyW w H M w2 by first | exact HB.call hb2 | exact HB.call' hb2); have c0 := HB.c0; have c1 := HB.c1; clear hb2) | (go_at_call 29; refine (SC.out _).mono ?_; rintro e w2 ⟨rfl, hb2⟩; have HB := (show KeyW w H M w2 by first | exact HB.call hb2 | exact HB.call' hb2); have c0 := HB.c0; have c1 := HB.c1; clear hb2; have HA := HB.alloc (.cells #[.string (num (N : Int)), .string (num (F : Int)), .string C] 9); have a0 := HA.c0; have a1 := HA.c1; clear HA) | (go_at_call 27; refine (SX.out _ _ (by first | exact HB.low.alloc HB.low.size _ | exact (HB.low.alloc HB.low.size _).drew | exact HB.low.drew.alloc HB.low.drew.size _) (by first | exact heap_alloc_new _ _ | simp)).mono ?_; rintro e w2 ⟨rfl, hb2⟩; have HB := (show KeyW w H M w2 by first | exact (HB.alloc _).call hb2 | exact (HB.alloc _).call' hb2); have c0 := HB.c0; have c1 := HB.c1; clear hb2))
   all_goals (
    go_wp2_with fail
    go_ret
    exact ⟨rfl, HB.low⟩)
set_option maxRecDepth 100000 in
set_option maxHeartbeats 3200000 in
theorem imp_blockSeal (H M : ByteArray) (id far : Int) (t : ByteArray) (w : World) (htab : Tab w) (ht : t.size ≤ 9223372036854775807) :
 Calls Tryz.prog 7 #[.agg #[.string H, .string M], .int .i64 id, .int .i64 far, .string t] w fun e w' => e = .returned (.string (sealS (H, M) id far t)) ∧ Below w.heap.size w w' := by
 by_cases hk : keysOk (H, M) = true
 · have SK := hide (fun W => by have h := imp_keysRight H M W; rw [hk] at h; exact h)
   by_cases hi : idOk id = true
   · have SI := hide (fun W => by have h := imp_idRight id W; rw [hi] at h; exact h)
     obtain ⟨h0, h1⟩ : 0 ≤ id ∧ id ≤ 2000000 := by unfold idOk at hi; simpa using hi
     by_cases hr : farOk10 far = true
     · have SR := hide (fun W => by have h := imp_farRight far W; rw [hr] at h; exact h)
       obtain ⟨h2, h3⟩ : 0 ≤ far ∧ far ≤ 256 := by unfold farOk10 at hr; simpa using hr
       by_cases h4 : t.size ≤ 4000
       · rw [show sealS (H, M) id far t = sealB (H, M) id far t from if_pos ⟨hk, hi, h2, h3, h4⟩]
         by_cases hf : 0 < far
         · exact imp_sealGoodF H M id far t w htab hk h0 h1 h2 h3 h4 hf
         · exact imp_sealGoodN H M id far t w htab hk h0 h1 h2 h3 h4 hf
       · have d4 : (4000 : Int) < (t.size : Int) := by omega
         have d5 : decide ((4000 : Int) < (t.size : Int)) = true := decide_eq_true d4
         have E := hide (show sealS (H, M) id far t = ⟨#[]⟩ from if_neg (fun h => h4 h.2.2.2.2))
         clear hk hi hr htab
         go_enter Tryz.func7, Tryz.ntmps7
         go_wp2_with fail
         refine (SK.out _).mono ?_
         rintro e w1 ⟨rfl, hb1⟩
         have HB := KeyW.one hb1
         have c0 := HB.c0
         have c1 := HB.c1
         clear hb1 SK
         go_wp2_with fail
         refine (SI.out _).mono ?_
         rintro e w2 ⟨rfl, hb2⟩
         have HB := HB.call hb2
         have c0 := HB.c0
         have c1 := HB.c1
         clear hb2 SI
         go_wp2_with fail
         refine (SR.out _).mono ?_
         rintro e w3 ⟨rfl, hb3⟩
         have HB := HB.call hb3
         have c0 := HB.c0
         have c1 := HB.c1
         clear hb3 SR
         go_wp2_with fail
         go_ret
         exact ⟨by rw [E.out]; first | done | rfl, HB.low⟩
     · have hr' : farOk10 far = false := Bool.eq_false_iff.2 hr
       have SR := hide (fun W => by have h := imp_farRight far W; rw [hr'] at h; exact h)
       have E := hide (show sealS (H, M) id far t = ⟨#[]⟩ from if_neg (fun h => hr (by unfold farOk10; simp; exact ⟨h.2.2.1, h.2.2.2.1⟩)))
       clear hk hi hr hr' htab
       go_enter Tryz.func7, Tryz.ntmps7
       go_wp2_with fail
       refine (SK.out _).mono ?_
       rintro e w1 ⟨rfl, hb1⟩
       have HB := KeyW.one hb1
       have c0 := HB.c0
       have c1 := HB.c1
       clear hb1 SK
       go_wp2_with fail
       refine (SI.out _).mono ?_
       rintro e w2 ⟨rfl, hb2⟩
       have HB := HB.call hb2
       have c0 := HB.c0
       have c1 := HB.c1
       clear hb2 SI
       go_wp2_with fail
       refine (SR.out _).mono ?_
       rintro e w3 ⟨rfl, hb3⟩
       have HB := HB.call hb3
       have c0 := HB.c0
       have c1 := HB.c1
       clear hb3 SR
       go_wp2_with fail
       go_ret
       exact ⟨by rw [E.out]; first | done | rfl, HB.low⟩
   · have hi' : idOk id = false := Bool.eq_false_iff.2 hi
     have SI := hide (fun W => by have h := imp_idRight id W; rw [hi'] at h; exact h)
     have E := hide (show sealS (H, M) id far t = ⟨#[]⟩ from if_neg (fun h => hi h.2.1))
     clear hk hi hi' htab
     go_enter Tryz.func7, Tryz.ntmps7
     go_wp2_with fail
     refine (SK.out _).mono ?_
     rintro e w1 ⟨rfl, hb1⟩
     have HB := KeyW.one hb1
     have c0 := HB.c0
     have c1 := HB.c1
     clear hb1 SK
     go_wp2_with fail
     refine (SI.out _).mono ?_
     rintro e w2 ⟨rfl, hb2⟩
     have HB := HB.call hb2
     have c0 := HB.c0
     have c1 := HB.c1
     clear hb2 SI
     go_wp2_with fail
     go_ret
     exact ⟨by rw [E.out]; first | done | rfl, HB.low⟩
 · have hk' : keysOk (H, M) = false := Bool.eq_false_iff.2 hk
   have SK := hide (fun W => by have h := imp_keysRight H M W; rw [hk'] at h; exact h)
   have E := hide (show sealS (H, M) id far t = ⟨#[]⟩ from if_neg (fun h => hk h.1))
   clear hk hk' htab
   go_enter Tryz.func7, Tryz.ntmps7
   go_wp2_with fail
   refine (SK.out _).mono ?_
   rintro e w1 ⟨rfl, hb1⟩
   have HB := KeyW.one hb1
   have c0 := HB.c0
   have c1 := HB.c1
   clear hb1 SK
   go_wp2_with fail
   go_ret
   exact ⟨by rw [E.out]; first | done | rfl, HB.low⟩
end Go.Proofs.YtconcnndghmdfaaGreatDoor
namespace Go.Proofs.YtconcnndghmdfaaGreatDoor
open Go.RowKit Go
structure OpW (w : World) (H M : ByteArray) (w2 : World) : Prop where
 b : Below (w.heap.size + 2) ((w.alloc (.cells #[.string H, .string M] 24)).alloc (.cells #[.string ⟨#[]⟩, .int .i64 0, .int .i64 0] 31)) w2
namespace OpW
variable {w w1 w2 : World} {H M : ByteArray}
theorem one (h : Below ((w.alloc (.cells #[.string H, .string M] 24)).alloc (.cells #[.string ⟨#[]⟩, .int .i64 0, .int .i64 0] 31)).heap.size ((w.alloc (.cells #[.string H, .string M] 24)).alloc (.cells #[.string ⟨#[]⟩, .int .i64 0, .int .i64 0] 31)) w2) : OpW w H M w2 := ⟨by simpa using h⟩
theorem start : OpW w H M ((w.alloc (.cells #[.string H, .string M] 24)).alloc (.cells #[.string ⟨#[]⟩, .int .i64 0, .int .i64 0] 31)) := ⟨Below.refl _ _⟩
theorem size (h : OpW w H M w2) : w.heap.size + 2 ≤ w2.heap.size := by have := h.b.size; simpa using this
theorem call (h : OpW w H M w1) (hb : Below w1.heap.size w1 w2) : OpW w H M w2 := ⟨h.b.trans (hb.mono h.size)⟩
theorem call' (h : OpW w H M w1) (hb : Below w1.drew.heap.size w1.drew w2) : OpW w H M w2 := ⟨h.b.drew.trans (hb.mono h.size)⟩
theorem alloc (h : OpW w H M w1) (o : Obj) : OpW w H M (w1.alloc o) := ⟨h.b.alloc h.size o⟩
theorem drew (h : OpW w H M w1) : OpW w H M w1.drew := ⟨h.b.drew⟩
theorem keys (h : OpW w H M w2) : w2.heap[w.heap.size]? = some (.cells #[.string H, .string M] 24 (0, 0)) := by
 refine (h.b.block w.heap.size (by omega)).trans ?_
 exact (((Below.refl (w.alloc (.cells #[.string H, .string M] 24)).heap.size _).alloc (Nat.le_refl _) _).block w.heap.size (by simp)).trans (heap_alloc_new w _)
theorem row (h : OpW w H M w2) : w2.heap[w.heap.size + 1]? = some (.cells #[.string ⟨#[]⟩, .int .i64 0, .int .i64 0] 31 (0, 0)) := by
 refine (h.b.block (w.heap.size + 1) (by omega)).trans ?_
 have := heap_alloc_new (w.alloc (.cells #[.string H, .string M] 24)) (.cells #[.string ⟨#[]⟩, .int .i64 0, .int .i64 0] 31)
 simpa using this
theorem c0 (h : OpW w H M w2) : w2.cell? ⟨w.heap.size, 0, none⟩ = some (.string H) := by simp [World.cell?, h.keys]
theorem c1 (h : OpW w H M w2) : w2.cell? ⟨w.heap.size, 1, none⟩ = some (.string M) := by simp [World.cell?, h.keys]
theorem r0 (h : OpW w H M w2) : w2.cell? ⟨w.heap.size + 1, 0, none⟩ = some (.string ⟨#[]⟩) := by simp [World.cell?, h.row]
theorem r1 (h : OpW w H M w2) : w2.cell? ⟨w.heap.size + 1, 1, none⟩ = some (.int .i64 0) := by simp [World.cell?, h.row]
theorem r2 (h : OpW w H M w2) : w2.cell? ⟨w.heap.size + 1, 2, none⟩ = some (.int .i64 0) := by simp [World.cell?, h.row]
theorem fz (h : OpW w H M w2) (o : Nat) : w2.frozen? ⟨w.heap.size + 1, o, none⟩ = false := by simp [World.frozen?, h.row]
theorem low (h : OpW w H M w2) : Below w.heap.size w w2 := (((Below.refl _ _).alloc (Nat.le_refl _) _).alloc (by simp) _).trans (h.b.mono (by omega))
theorem code (h : OpW w H M w2) (c : Int) : (w2.setCell ⟨w.heap.size + 1, 2, none⟩ (.int .i64 c)).heap[w.heap.size + 1]? = some (.cells #[.string ⟨#[]⟩, .int .i64 0, .int .i64 c] 31 (0, 0)) := by simp [World.setCell, Array.getElem?_modify, h.row]
theorem text (h : OpW w H M w2) (t : ByteArray) : (w2.setCell ⟨w.heap.size + 1, 0, none⟩ (.string t)).heap[w.heap.size + 1]? = some (.cells #[.string t, .int .i64 0, .int .i64 0] 31 (0, 0)) := by simp [World.setCell, Array.getElem?_modify, h.row]
theorem all (h : OpW w H M w2) (t : ByteArray) (a c : Int) : (((w2.setCell ⟨w.heap.size + 1, 0, none⟩ (.string t)).setCell ⟨w.heap.size + 1, 1, none⟩ (.int .i64 a)).setCell ⟨w.heap.size + 1, 2, none⟩ (.int .i64 c)).heap[w.heap.size + 1]? = some (.cells #[.string t, .int .i64 a, .int .i64 c] 31 (0, 0)) := by simp [World.setCell, Array.getElem?_modify, h.row]
theorem set (h : OpW w H M w2) (o : Nat) (v : Value) : Below w.heap.size w (w2.setCell ⟨w.heap.size + 1, o, none⟩ v) := h.low.setCell (Nat.le_succ _) _
theorem set3 (h : OpW w H M w2) (a b c : Value) : Below w.heap.size w (((w2.setCell ⟨w.heap.size + 1, 0, none⟩ a).setCell ⟨w.heap.size + 1, 1, none⟩ b).setCell ⟨w.heap.size + 1, 2, none⟩ c) := ((h.low.setCell (Nat.le_succ _) _).setCell (Nat.le_succ _) _).setCell (Nat.le_succ _) _
end OpW
structure OpY (w : World) (H M : ByteArray) (y : Nat) (n a c : Int) (w2 : World) : Prop where
 o : OpW w H M w2
 r : w2.heap[y]? = some (.cells #[.int .i64 n, .int .i64 a, .int .i64 c] 91 (0, 0))
namespace OpY
variable {w w1 w2 : World} {H M : ByteArray} {y : Nat} {n a c : Int}
theorem one (h : OpW w H M w1) : OpY w H M w1.heap.size n a c (w1.alloc (.cells #[.int .i64 n, .int .i64 a, .int .i64 c] 91)) := ⟨h.alloc _, heap_alloc_new w1 _⟩
theorem lt (h : OpY w H M y n a c w2) : y < w2.heap.size := (Array.getElem?_eq_some_iff.1 h.r).1
theorem call (h : OpY w H M y n a c w1) (hb : Below w1.heap.size w1 w2) : OpY w H M y n a c w2 := ⟨h.o.call hb, (hb.block y h.lt).trans h.r⟩
theorem call' (h : OpY w H M y n a c w1) (hb : Below w1.drew.heap.size w1.drew w2) : OpY w H M y n a c w2 := ⟨h.o.call' hb, (hb.block y h.lt).trans h.r⟩
theorem drew (h : OpY w H M y n a c w1) : OpY w H M y n a c w1.drew := ⟨h.o.drew, h.r⟩
theorem alloc (h : OpY w H M y n a c w1) (o : Obj) : OpY w H M y n a c (w1.alloc o) := ⟨h.o.alloc o, (((Below.refl w1.heap.size w1).alloc (Nat.le_refl _) o).block y h.lt).trans h.r⟩
theorem y0 (h : OpY w H M y n a c w2) : w2.cell? ⟨y, 0, none⟩ = some (.int .i64 n) := by simp [World.cell?, h.r]
theorem y1 (h : OpY w H M y n a c w2) : w2.cell? ⟨y, 1, none⟩ = some (.int .i64 a) := by simp [World.cell?, h.r]
theorem y2 (h : OpY w H M y n a c w2) : w2.cell? ⟨y, 2, none⟩ = some (.int .i64 c) := by simp [World.cell?, h.r]
end OpY
structure OpZ (w : World) (H M : ByteArray) (y : Nat) (n a c : Int) (z : Nat) (w2 : World) : Prop where
 oy : OpY w H M y n a c w2
 g : w.heap.size + 2 ≤ z
 ne : y ≠ z
 r : w2.heap[z]? = some (.cells #[.string ⟨#[]⟩, .int .i64 0, .int .i64 0] 31 (0, 0))
namespace OpZ
variable {w w1 w2 : World} {H M : ByteArray} {y z : Nat} {n a c : Int}
theorem one (h : OpY w H M y n a c w1) : OpZ w H M y n a c w1.heap.size (w1.alloc (.cells #[.string ⟨#[]⟩, .int .i64 0, .int .i64 0] 31)) := ⟨h.alloc _, h.o.size, Nat.ne_of_lt h.lt, heap_alloc_new w1 _⟩
theorem here (h : OpY w H M y n a c w1) (hz : w1.heap.size = z) : OpZ w H M y n a c z (w1.alloc (.cells #[.string ⟨#[]⟩, .int .i64 0, .int .i64 0] 31)) := by subst hz; exact one h
theorem lt (h : OpZ w H M y n a c z w2) : z < w2.heap.size := (Array.getElem?_eq_some_iff.1 h.r).1
theorem call (h : OpZ w H M y n a c z w1) (hb : Below w1.heap.size w1 w2) : OpZ w H M y n a c z w2 := ⟨h.oy.call hb, h.g, h.ne, (hb.block z h.lt).trans h.r⟩
theorem z0 (h : OpZ w H M y n a c z w2) : w2.cell? ⟨z, 0, none⟩ = some (.string ⟨#[]⟩) := by simp [World.cell?, h.r]
theorem z1 (h : OpZ w H M y n a c z w2) : w2.cell? ⟨z, 1, none⟩ = some (.int .i64 0) := by simp [World.cell?, h.r]
theorem z2 (h : OpZ w H M y n a c z w2) : w2.cell? ⟨z, 2, none⟩ = some (.int .i64 0) := by simp [World.cell?, h.r]
theorem fz (h : OpZ w H M y n a c z w2) (o : Nat) : w2.frozen? ⟨z, o, none⟩ = false := by simp [World.frozen?, h.r]
theorem set (h : OpZ w H M y n a c z w2) (u v x : Value) : OpY w H M y n a c (((w2.setCell ⟨z, 0, none⟩ u).setCell ⟨z, 1, none⟩ v).setCell ⟨z, 2, none⟩ x) :=
 ⟨⟨((h.oy.o.b.setCell (p := ⟨z, 0, none⟩) h.g u).setCell (p := ⟨z, 1, none⟩) h.g v).setCell (p := ⟨z, 2, none⟩) h.g x⟩, by
   have hn : z ≠ y := fun e => h.ne e.symm
   simp [World.setCell, Array.getElem?_modify, hn, h.oy.r]⟩
theorem fin (h : OpZ w H M y n a c z w2) (u v x : Value) : (((w2.setCell ⟨z, 0, none⟩ u).setCell ⟨z, 1, none⟩ v).setCell ⟨z, 2, none⟩ x).heap[z]? = some (.cells #[u, v, x] 31 (0, 0)) := by simp [World.setCell, Array.getElem?_modify, h.r]
end OpZ
theorem num1_agg (t : ByteArray) : ∃ n c : Int, numAns 0 (num1 t) = .agg #[.int .i64 n, .int .i64 ((num1 t).2.2 : Int), .int .i64 c] ∧ (c = 0 ↔ (num1 t).1 = 0) ∧ (c = 0 → n = unfold (num1 t).2.1) := by
 rcases decAt_form t 0 with ⟨U, m, h, hm⟩ | h | h <;> unfold num1 <;> rw [h]
 · refine ⟨unfold U, 0, ?_, by simp, fun _ => rfl⟩
   rw [numAns_good]; unfold numOut; simp
 · exact ⟨0, 3, by rw [numAns_bad 0 3 (by omega)]; rfl, by simp, by simp⟩
 · exact ⟨0, 4, by rw [numAns_bad 0 4 (by omega)]; rfl, by simp, by simp⟩
theorem num2_agg (t : ByteArray) : ∃ n a c : Int, numAns (num1 t).2.2 (num2 t) = .agg #[.int .i64 n, .int .i64 a, .int .i64 c] ∧ (c = 0 ↔ (num2 t).1 = 0) ∧ (c = 0 → n = unfold (num2 t).2.1 ∧ a = (fromX t : Int)) := by
 unfold fromX num2
 rcases decAt_form t (num1 t).2.2 with ⟨U, m, h, hm⟩ | h | h <;> rw [h]
 · refine ⟨unfold U, ((num1 t).2.2 : Int) + m, 0, ?_, by simp, fun _ => ⟨rfl, by show _ = (((num1 t).2.2 + m : Nat) : Int); omega⟩⟩
   rw [numAns_good]; rfl
 · exact ⟨0, 0, 3, by rw [numAns_bad _ 3 (by omega)]; rfl, by simp, by simp⟩
 · exact ⟨0, 0, 4, by rw [numAns_bad _ 4 (by omega)]; rfl, by simp, by simp⟩
end Go.Proofs.YtconcnndghmdfaaGreatDoor
namespace Go.Proofs.YtconcnndghmdfaaGreatDoor
open Go.RowKit Go
set_option maxRecDepth 100000 in
theorem catch_idle (p : Addr) (w : World) :
 CallsD Tryz.prog 35 #[.pointer (some p)] .returning w fun e u' w' => e = .returned (.tuple #[]) ∧ u' = .returning ∧ w' = w := by
 refine callsD_of_wpS Tryz.func35 rfl fun c₀ cs hu => ?_
 apply wpS_seq
 apply wpS_region
 simp [wpOpsS, go_sem, recoverD, hu, Tryz.ntmps35, Exit.thenS]
 refine wpS_of_wp ?_
 have hT : (#[Value.pointer (some p)] ++ ((Array.replicate 7 undef).setIfInBounds 1 Value.nilIface).setIfInBounds 0 Value.nilIface) = #[Value.pointer (some p), .nilIface, .nilIface, undef, undef, undef, undef, undef] := rfl
 rw [hT]
 go_wp2_with fail
 cases c₀
 simp_all [bodyPostS, results, Tryz.results35]
set_option maxRecDepth 100000 in
theorem catch_fault (g : Nat) (c : Int) (older : List PanicEntry) (w : World) (r0 : w.cell? ⟨g, 0, none⟩ = some (.string ⟨#[]⟩)) (r1 : w.cell? ⟨g, 1, none⟩ = some (.int .i64 0)) (r2 : w.cell? ⟨g, 2, none⟩ = some (.int .i64 0)) (fz : ∀ o, w.frozen? ⟨g, o, none⟩ = false) :
 CallsD Tryz.prog 35 #[.pointer (some ⟨g, 0, none⟩)] (.panicking ({ v := faultP c, recovered := false } :: older)) w fun e u' w' =>
  e = .returned (.tuple #[]) ∧ u' = .panicking ({ v := faultP c, recovered := true } :: older) ∧ w' = (((w.setCell ⟨g, 0, none⟩ (.string ⟨#[]⟩)).setCell ⟨g, 1, none⟩ (.int .i64 0)).setCell ⟨g, 2, none⟩ (.int .i64 c)) := by
 refine callsD_of_wpS Tryz.func35 rfl fun c₀ cs hu => ?_
 apply wpS_seq
 apply wpS_region
 simp [wpOpsS, go_sem, recoverD, hu, Tryz.ntmps35, Exit.thenS]
 refine wpS_of_wp ?_
 have S := hide (fun W => imp_faultCode c W)
 unfold faultP at *
 have hT : (#[Value.pointer (some ⟨g, 0, none⟩)] ++ ((Array.replicate 7 undef).setIfInBounds 1 (Value.iface 84 (.agg #[.int .i64 c]))).setIfInBounds 0 (Value.iface 84 (.agg #[.int .i64 c]))) = #[Value.pointer (some ⟨g, 0, none⟩), .iface 84 (.agg #[.int .i64 c]), .iface 84 (.agg #[.int .i64 c]), undef, undef, undef, undef, undef] := rfl
 rw [hT]
 go_wp2_with fail
 refine (S.out _).mono ?_
 rintro e w1 ⟨rfl, rfl⟩
 go_wp2_with fail
 cases c₀
 simp_all [bodyPostS, results, Tryz.results35]
set_option maxRecDepth 100000 in
set_option maxHeartbeats 1600000 in
theorem imp_open_long (H M b : ByteArray) (id : Int) (w : World) (hs : 20000 < b.size) (hb : b.size ≤ 9223372036854775807) :
 Calls Tryz.prog 11 #[.agg #[.string H, .string M], .int .i64 id, .string b] w fun e w' => e = .returned (textO ⟨#[]⟩ 2) ∧ Below w.heap.size w w' := by
 have hs' : (20000 : Int) < (b.size : Int) := by omega
 have hmf : ∀ (fn : Fn) (first cap : Array Value) (w : World), (Instr.makeFunc fn first cap).run Tryz.prog w = .ok (.func fn first cap) w := fun _ _ _ _ => rfl
 unfold textO
 go_enter_defers Tryz.func11, Tryz.ntmps11
 go_wp2_with fail
 have hr := heap_alloc_new (w.alloc (.cells #[.string H, .string M] 24)) (.cells #[.string ⟨#[]⟩, .int .i64 0, .int .i64 2] 31)
 rw [World.size_alloc] at hr
 exact ⟨_, results_cell_row Tryz.results11 _ _ (w.heap.size + 1) 31 #[.string ⟨#[]⟩, .int .i64 0, .int .i64 2] (0, 0) _ rfl hr Tryz.underlying31 rfl (by kernel_rfl), rfl, ((Below.refl _ _).alloc (Nat.le_refl _) _).alloc (by simp) _⟩
set_option maxRecDepth 100000 in
set_option maxHeartbeats 1600000 in
theorem imp_open_good (H M b t : ByteArray) (id : Int) (w : World) (hs : b.size ≤ 20000)
 (SO : Hid (∀ W : World, Below w.heap.size w W → Calls Tryz.prog 37 #[.agg #[.string H, .string M], .int .i64 id, .string b] W fun e w' => e = .returned (.string t) ∧ Below W.heap.size W w')) :
 Calls Tryz.prog 11 #[.agg #[.string H, .string M], .int .i64 id, .string b] w fun e w' => e = .returned (textO t 0) ∧ Below w.heap.size w w' := by
 have hs' : ¬ (20000 : Int) < (b.size : Int) := by omega
 have hmf : ∀ (fn : Fn) (first cap : Array Value) (w : World), (Instr.makeFunc fn first cap).run Tryz.prog w = .ok (.func fn first cap) w := fun _ _ _ _ => rfl
 have HB0 : OpW w H M _ := OpW.start (w := w) (H := H) (M := M)
 have c0 := HB0.c0
 have c1 := HB0.c1
 have HB := hide HB0
 clear HB0
 unfold textO
 go_enter_defers Tryz.func11, Tryz.ntmps11
 go_wp2_with fail
 refine (SO.out _ HB.out.low).mono ?_
 rintro e w1 ⟨rfl, hb1⟩
 have HB := hide (HB.out.call hb1)
 clear hb1 c0 c1
 have r0 := HB.out.r0
 have r1 := HB.out.r1
 have r2 := HB.out.r2
 have fz := HB.out.fz
 go_wp2_with fail
 refine leaves_cons (f := 35) (args := #[.pointer (some ⟨w.heap.size + 1, 0, none⟩)]) (by simp) (by simp [go_sem]) ?_
 refine (catch_idle ⟨w.heap.size + 1, 0, none⟩ _).mono ?_
 rintro e u' w'' ⟨rfl, rfl, rfl⟩
 exact ⟨_, results_cell_row Tryz.results11 _ _ (w.heap.size + 1) 31 #[.string t, .int .i64 0, .int .i64 0] (0, 0) _ rfl (HB.out.all _ _ _) Tryz.underlying31 rfl (by kernel_rfl), rfl, HB.out.set3 _ _ _⟩
set_option maxRecDepth 100000 in
set_option maxHeartbeats 1600000 in
theorem imp_open_bad (H M b : ByteArray) (id c : Int) (w : World) (hs : b.size ≤ 20000)
 (SO : Hid (∀ W : World, Below w.heap.size w W → Calls Tryz.prog 37 #[.agg #[.string H, .string M], .int .i64 id, .string b] W fun e w' => e = .panicked [{ v := faultP c, recovered := false }] ∧ Below W.heap.size W w')) :
 Calls Tryz.prog 11 #[.agg #[.string H, .string M], .int .i64 id, .string b] w fun e w' => e = .returned (textO ⟨#[]⟩ c) ∧ Below w.heap.size w w' := by
 have hs' : ¬ (20000 : Int) < (b.size : Int) := by omega
 have hmf : ∀ (fn : Fn) (first cap : Array Value) (w : World), (Instr.makeFunc fn first cap).run Tryz.prog w = .ok (.func fn first cap) w := fun _ _ _ _ => rfl
 have HB0 : OpW w H M _ := OpW.start (w := w) (H := H) (M := M)
 have c0 := HB0.c0
 have c1 := HB0.c1
 have HB := hide HB0
 clear HB0
 unfold textO
 go_enter_defers Tryz.func11, Tryz.ntmps11
 go_wp2_with fail
 refine (SO.out _ HB.out.low).mono ?_
 rintro e w1 ⟨rfl, hb1⟩
 have HB := hide (HB.out.call hb1)
 clear hb1 c0 c1
 have r0 := HB.out.r0
 have r1 := HB.out.r1
 have r2 := HB.out.r2
 have fz := HB.out.fz
 go_wp2_with fail
 refine leaves_cons (f := 35) (args := #[.pointer (some ⟨w.heap.size + 1, 0, none⟩)]) (by simp) (by simp [go_sem]) ?_
 refine (catch_fault (w.heap.size + 1) c [] w1 r0 r1 r2 fz).mono ?_
 rintro e u' w'' ⟨rfl, rfl, rfl⟩
 exact ⟨_, results_cell_row Tryz.results11 _ _ (w.heap.size + 1) 31 #[.string ⟨#[]⟩, .int .i64 0, .int .i64 c] (0, 0) _ rfl (HB.out.all _ _ _) Tryz.underlying31 rfl (by kernel_rfl), rfl, HB.out.set3 _ _ _⟩
end Go.Proofs.YtconcnndghmdfaaGreatDoor
namespace Go.Proofs.YtconcnndghmdfaaGreatDoor
open Go.RowKit
theorem inFront_list (s p : ByteArray) : inFront s p ↔ p.data.toList <+: s.data.toList := by
 have hp : p.data.toList.length = p.size := rfl
 have hs : s.data.toList.length = s.size := rfl
 constructor
 · rintro ⟨h1, h2⟩
   refine ⟨s.data.toList.drop p.size, ?_⟩
   have e : p.data.toList = s.data.toList.take p.size := by
    have := congrArg (fun x : ByteArray => x.data.toList) h2
    simp only [data_take] at this
    exact this.symm
   rw [e]
   exact List.take_append_drop _ _
 · rintro ⟨r, hr⟩
   refine ⟨by rw [← hs, ← hr, List.length_append]; omega, ?_⟩
   apply ByteArray.ext
   rw [← Array.toList_inj, data_take, ← hr, ← hp]
   exact List.take_left
theorem numB_list (n : Int) : (numB n).data.toList = encNum (foldNum n) := by unfold numB; simp
theorem front_yes (t : ByteArray) (id : Int) (h0 : 0 ≤ id) (h1 : id ≤ 2000000) (h : inFront t (numB id)) :
 (num1 t).1 = 0 ∧ unfold (num1 t).2.1 = id ∧ (num1 t).2.2 = (numB id).size ∧ decAt (cutT t (numB id)) 0 = num2 t ∧ cutT t (numB id) = t.extract (numB id).size t.size := by
 have hc : cutT t (numB id) = t.extract (numB id).size t.size := if_pos h
 have hl : (numB id).size = (encNum (foldNum id)).length := by unfold numB; exact size_mk _
 obtain ⟨r, hr⟩ := (inFront_list _ _).1 h
 rw [numB_list] at hr
 have hn : num1 t = (0, foldNum id, (encNum (foldNum id)).length) := by
  unfold num1 decAt
  rw [List.drop_zero, ← hr]
  exact dec_whole _ _ (foldNum_small id h0 h1)
 refine ⟨by rw [hn], by rw [hn]; exact unfold_fold id, by rw [hn, hl], ?_, hc⟩
 unfold num2
 rw [hn, hc, hl]
 unfold decAt
 rw [ext_list', List.drop_zero]
theorem front_no (t : ByteArray) (id : Int) (h0 : 0 ≤ id) (h1 : id ≤ 2000000) (h : ¬ inFront t (numB id)) : ¬ headOk t id := by
 intro hk
 refine h ((inFront_list _ _).2 ?_)
 rw [numB_list]
 exact (front_is t id h0 h1).2 ⟨hk.1, hk.2.2.1⟩
theorem rest_cut (t : ByteArray) (p m : Nat) : (t.extract p t.size).extract m (t.extract p t.size).size = t.extract (p + m) t.size := by
 apply ByteArray.ext
 rw [← Array.toList_inj, ext_list', ext_list', ext_list', List.drop_drop]
end Go.Proofs.YtconcnndghmdfaaGreatDoor
