/- Put together: FbW, FnBlockL. -/
import Derived.Test.YtconcnndghmdfaaGreatDoorSf52
namespace Go.Proofs.YtconcnndghmdfaaGreatDoor
open Go Go.RowKit
theorem field_codeB (x : ByteArray) (n c : Int) (w : World) : (Instr.field 31 (.agg #[.string x, .int .i64 n, .int .i64 c]) 2).run Tryz.prog w = .ok (.int .i64 c) w := by kernel_rfl
set_option maxRecDepth 100000 in
set_option maxHeartbeats 6400000 in
theorem fnBlock_main (a0 : Option Addr) (len0 cap0 : Nat) (a1 : Option Addr) (len1 cap1 : Nat) (w : World) (htab : Tab w) (hl : Laid w) (hl0 : len0 ≤ 1048576) (hl1 : len1 ≤ 1048576) (hb0 : BytesIn w w.heap.size a0 len0) (hb1 : BytesIn w w.heap.size a1 len1) :
 Calls Tryz.prog 3 #[.slice a0 len0 cap0, .slice a1 len1 cap1] w fun e w' => e = .returned (.bool true) ∧ Below w.heap.size w w' := by
 have h0' : ¬ (1048576 : Int) < (len0 : Int) := by omega
 have h0d : decide ((1048576 : Int) < (len0 : Int)) = false := decide_eq_false h0'
 have h1' : ¬ (1048576 : Int) < (len1 : Int) := by omega
 have h1d : decide ((1048576 : Int) < (len1 : Int)) = false := decide_eq_false h1'
 have HT := hide (And.intro htab hl)
 have HB0 := hide hb0
 have HB1 := hide hb1
 clear hb0 hb1 htab hl
 go_enter Tryz.func3, Tryz.ntmps3
 go_wp2_with fail
 refine (drawBlockSeal_any w a0 len0 cap0 hl0 HB0.out).mono ?_
 rintro e w1 ⟨H, M, id, far, t, rfl, hH, hM, i0, i1, ht, hg1⟩
 have K1 := hide (FbR.one (H := H) (M := M) (grownBy_toBelow hg1))
 have c0 := K1.out.c0
 have c1 := K1.out.c1
 clear hg1 HB0
 have SB := fun W => spec_blockSeal H M id far t W (by omega)
 have IB := fun W (h : Tab W) => imp_blockSeal H M id far t W h (by omega)
 by_cases hok : sealOk (H, M) id far t
 · have hs : sealS (H, M) id far t = sealB (H, M) id far t := if_pos hok
   rw [hs] at SB IB
   obtain ⟨hk, hi, h2, h3, h4⟩ := hok
   obtain ⟨hH16, hM32⟩ : H.size = 16 ∧ M.size = 32 := by unfold keysOk at hk; simpa using hk
   obtain ⟨i2, i3⟩ : 0 ≤ id ∧ id ≤ 2000000 := by unfold idOk at hi; simpa using hi
   have hne := seal_ne (H, M) id far t i2 i3 h2 h3 h4
   have hlen := seal_long (H, M) id far t i2 i3 h2 h3 h4
   have SB := hide SB
   have IB := hide IB
   clear hs
   obtain ⟨b, hb⟩ : ∃ b, b = sealB (H, M) id far t := ⟨_, rfl⟩
   rw [← hb] at SB IB hne hlen
   have HBs := hide hb
   clear hb
   go_wp2_with fail
   refine (IB.out _ (HT.out.1.low K1.out.f)).mono ?_
   rintro e w2 ⟨rfl, hb2⟩
   have K2 := hide (K1.out.call hb2)
   clear hb2 c0 c1 K1 IB
   have c0 := K2.out.c0
   have c1 := K2.out.c1
   go_wp2_with fail
   refine (SB.out _).mono ?_
   rintro e w3 ⟨rfl, hb3⟩
   have K3 := hide (K2.out.call hb3)
   clear hb3 c0 c1 K2 SB
   obtain ⟨cp, w4, hcv, hcp, hcm, hz4, hb4, hr4⟩ := text_row (P := Tryz.prog) w3 9 22 5 b b.size rfl (by omega) Tryz.underlying9 Tryz.underlying22 Tryz.underlying5
   have K4 := hide (K3.out.call hb4)
   have R4 := hide hr4
   have hbn : (b.size : Int) ≤ 17030 := by omega
   have hbn0 : 18 ≤ (b.size : Int) := by omega
   have hbz : ¬ (b.size : Int) = 0 := by omega
   clear hb4 hr4
   go_wp2_with fail
   refine (lwAt_any _ w.heap.size a1 len1 cap1 0 256 hl1 (by omega) (by omega) (by omega) (HB1.out.below K4.out.f (Nat.le_refl _))).mono ?_
   rintro e w5 ⟨v, rfl, v0, v1, rfl⟩
   obtain ⟨vn, rfl⟩ := Int.eq_ofNat_of_zero_le v0
   have hvn : vn < 256 := by omega
   have htm : Int.tmod (vn : Int) (b.size : Int) = ((vn % b.size : Nat) : Int) := by rw [Int.tmod_eq_emod_of_nonneg (by omega)]; rfl
   have hat : vn % b.size < b.size := Nat.mod_lt _ (by omega)
   generalize vn % b.size = p at *
   have hp' : (p : Int) < (b.size : Int) := by omega
   clear v0 v1
   go_wp2_with fail
   obtain ⟨hcell, hfr⟩ := R4.out.2 p hat
   have HBy := hide (show BytesIn w4.drew w.heap.size a1 len1 from HB1.out.below K4.out.f.drew (Nat.le_refl _))
   have hkc : w1.heap.size < w3.heap.size := K3.out.lt
   generalize w3.heap.size = cb at *
   generalize hzb : bF b p = zb at *
   clear hcv hvn htm hzb K3
   go_cut [64] from 54 to 65 (fun x wx => ∃ Y : UInt8, x = .int .u8 (Y.toNat : Int) ∧ Hid (rowC wx cb b.size (fun j => if j = p then Y else bF b j)) ∧ Hid (FbR w w1.heap.size H M wx))
   case first =>
    go_region_with (go_at_call 9; refine (lwAt_any _ w.heap.size a1 len1 cap1 1 255 hl1 (by omega) (by omega) (by omega) HBy.out).mono ?_; rintro e w' ⟨v2, rfl, x0, x1, rfl⟩)
    all_goals (
     obtain ⟨x2, rfl⟩ := Int.eq_ofNat_of_zero_le x0
     have hx2 : x2 < 255 := by omega
     rw [wrap_turn x2 hx2]
     obtain ⟨Y, hY⟩ := xor8_any zb (x2 + 1) (by omega)
     rw [hY]
     have R5 := R4.out.drew.set hat (X := Y.toNat) (Y := Y) rfl
     have K5 := K4.out.drew.set (i := p) hkc (.int .u8 (Y.toNat : Int))
     go_wp2_with fail
     go_meet
     exact ⟨Y, rfl, R5, K5⟩)
   case rest =>
    clear hcell hfr HBy R4 K4
    obtain ⟨Y, rfl, R5, K5⟩ := hcut
    obtain ⟨F, hF⟩ : ∃ F : Nat → UInt8, F = fun j => if j = p then Y else bF b j := ⟨_, rfl⟩
    rw [← hF] at R5
    clear hF
    obtain ⟨m, hm⟩ : ∃ m, m = b.size - 16 := ⟨_, rfl⟩
    have hmI : (b.size : Int) - 16 = (m : Int) := by omega
    have hm0 : (m : Int) ≤ (b.size : Int) := by omega
    have hcap : (b.size : Int) ≤ (cp : Int) := by omega
    have hmc : (m : Int) ≤ (cp : Int) := by omega
    have hbm : (b.size : Int) - (m : Int) = 16 := by omega
    have hbmN : b.size - m = 16 := by omega
    have hw1 := wrap_next id i2 i3
    have e1 : mkB m (fun j => F (0 + j)) = bodyX (mkB b.size F) := by rw [mk_body b.size F (by omega), hm]
    have e2 : mkB 16 (fun j => F (m + j)) = tailX (mkB b.size F) := by rw [mk_tail b.size F (by omega), hm]
    have hcs : (mkB b.size F).size = b.size := mkB_size _ _
    have hcv1 : ∀ (c : Nat) (W : World), rowC W cb b.size F → (convert 22 9 (.slice (some ⟨cb, 0, none⟩) m c)).run Tryz.prog W = .ok (.string (bodyX (mkB b.size F))) W := fun c W h => by rw [← e1]; exact conv_at h (by omega) Tryz.underlying22 Tryz.underlying5 Tryz.underlying9
    have hcv2 : ∀ (c : Nat) (W : World), rowC W cb b.size F → (convert 22 9 (.slice (some ⟨cb, m, none⟩) 16 c)).run Tryz.prog W = .ok (.string (tailX (mkB b.size F))) W := fun c W h => by rw [← e2]; exact conv_at h (by omega) Tryz.underlying22 Tryz.underlying5 Tryz.underlying9
    have hcv0 : ∀ (W : World), rowC W cb b.size F → (convert 22 9 (.slice (some ⟨cb, 0, none⟩) b.size cp)).run Tryz.prog W = .ok (.string (mkB b.size F)) W := fun W h => by rw [← mk_all b.size F]; exact conv_at h (by omega) Tryz.underlying22 Tryz.underlying5 Tryz.underlying9
    have hbs : (bodyX (mkB b.size F)).size ≤ 20000 := by rw [bodyX_size, hcs]; omega
    have SM := hide (fun W => by
     have h := spec_Mac M (bodyX (mkB b.size F)) W (by omega) (by omega)
     rw [show macS M (bodyX (mkB b.size F)) = macT M (bodyX (mkB b.size F)) from if_pos ⟨by omega, by omega⟩] at h
     exact h)
    have HX := macT_size M (bodyX (mkB b.size F))
    have hsl3 : ∀ W : World, (Instr.slice 9 (.string (macT M (bodyX (mkB b.size F)))) none (some (.int .i64 16)) none).run Tryz.prog W = .ok (.string (take16 (macT M (bodyX (mkB b.size F))))) W := fun W => run_front (P := Tryz.prog) W 9 (macT M (bodyX (mkB b.size F))) 16 Tryz.underlying9 (by rw [HX]; decide)
    have hX' : (16 : Int) ≤ ((macT M (bodyX (mkB b.size F))).size : Int) := by rw [HX]; decide
    have hO1 : openS (H, M) id b = (t, 0) := by
     unfold openS
     rw [if_neg (by omega), if_neg (not_not_intro ⟨hk, hi⟩), HBs.out]
     exact openT_back (H, M) id far t hH16 i2 i3 h2 h3 h4
    have hO2 : ∀ o : Int, 0 ≤ o → o ≤ 2000000 → ¬ o = id → openS (H, M) o b = (⟨#[]⟩, 5) := fun o o1 o2 o3 => by
     unfold openS
     rw [if_neg (by omega), if_neg (not_not_intro ⟨hk, by unfold idOk; simp; omega⟩), HBs.out]
     exact openT_id (H, M) id far o t i2 i3 h2 h3 h4 o3
    have hO3 : ¬ take16 (macT M (bodyX (mkB b.size F))) = tailX (mkB b.size F) → openS (H, M) id (mkB b.size F) = (⟨#[]⟩, 10) := fun h => by
     unfold openS
     rw [if_neg (by omega), if_neg (not_not_intro ⟨hk, hi⟩)]
     exact openT_turned (H, M) id (mkB b.size F) (by omega) h
    have I1 := hide (fun W (h : Below w.heap.size w W) => by have h2 := imp_blockOpen H M b id W (HT.out.1.low h) (HT.out.2.low h) (by omega); rw [hO1] at h2; unfold textO at h2; exact h2)
    have I3' := fun (ht : ¬ take16 (macT M (bodyX (mkB b.size F))) = tailX (mkB b.size F)) W (h : Below w.heap.size w W) => by have h2 := imp_blockOpen H M (mkB b.size F) id W (HT.out.1.low h) (HT.out.2.low h) (by omega); rw [hO3 ht] at h2; unfold textO at h2; exact h2
    have I3' := hide I3'
    have hfc := field_codeB
    have R5 := hide R5.out.drew
    have K5 := hide K5.out.drew
    clear hO1 hO3 HX hbs e1 e2
    generalize hXX : take16 (macT M (bodyX (mkB b.size F))) = X16 at *
    generalize macT M (bodyX (mkB b.size F)) = X at *
    generalize bodyX (mkB b.size F) = BD at *
    generalize tailX (mkB b.size F) = TL at *
    generalize mkB b.size F = CT at *
    clear hXX hm hlen
    by_cases ho : 2000000 < id + 1
    · have hO2 := hO2 0 (by omega) (by omega) (by omega)
      have I2 := hide (fun W (h : Below w.heap.size w W) => by have h2 := imp_blockOpen H M b (0) W (HT.out.1.low h) (HT.out.2.low h) (by omega); rw [hO2] at h2; unfold textO at h2; exact h2)
      clear hO2
      by_cases htu : X16 = TL
      · subst htu
        clear I3'
        go_wp2_with fail
        go_region_held (fun W' => rowC W' cb b.size F ∧ W'.cell? ⟨w1.heap.size, 1, none⟩ = some (.string M)) (first | exact ⟨R5.out, K5.out.c1⟩ | go_keep) (first | (go_at_call 10; refine (SM.out _).mono ?_; rintro e w6 ⟨rfl, hb6⟩; have R5 := hide (R5.out.below hb6); have K5 := hide (K5.out.call hb6); clear hb6))
        all_goals (
         have c0 := K5.out.c0
         have c1 := K5.out.c1
         go_wp2_with fail
         refine (I1.out _ K5.out.f).mono ?_
         rintro e w7 ⟨rfl, hb7⟩
         have R5 := hide (R5.out.below hb7)
         have K5 := hide (K5.out.call hb7)
         have c0 := K5.out.c0
         have c1 := K5.out.c1
         clear hb7 I1
         go_wp2_with fail
         refine (I2.out _ K5.out.f).mono ?_
         rintro e w8 ⟨rfl, hb8⟩
         have R5 := hide (R5.out.below hb8)
         have K5 := hide (K5.out.call hb8)
         have c0 := K5.out.c0
         have c1 := K5.out.c1
         clear hb8 I2
         clear c0 c1 R5
         go_wp2_with fail
         refine (drawBlockOpen_any _ a1 len1 cap1 hl1 (BytesIn.lowB HB1.out K5.out.f)).mono ?_
         rintro e v1 ⟨H2, M2, id2, u, rfl, hu, hg⟩
         have L1 := hide (FbR.one (H := H2) (M := M2) (K5.out.f.trans ((grownBy_toBelow hg).mono K5.out.f.size)))
         have d0 := L1.out.c0
         have d1 := L1.out.c1
         have SO := fun W => spec_blockOpen H2 M2 u id2 W (by omega)
         have IO := fun W (h : Below w.heap.size w W) => imp_blockOpen H2 M2 u id2 W (HT.out.1.low h) (HT.out.2.low h) (by omega)
         unfold textO at SO IO
         generalize openS (H2, M2) id2 u = r at *
         obtain ⟨X2, z2⟩ := r
         dsimp only at SO IO
         have SO := hide SO
         have IO := hide IO
         clear hg K5
         go_wp2_with fail
         have L1 := hide L1.out.drew
         go_region_held3 (fun W' => W'.cell? ⟨v1.heap.size, 0, none⟩ = some (.string H2) ∧ W'.cell? ⟨v1.heap.size, 1, none⟩ = some (.string M2)) (first | exact ⟨L1.out.c0, L1.out.c1⟩ | go_keep) (first | (go_at_call 11; refine (IO.out _ L1.out.f).mono ?_; rintro e v2 ⟨rfl, hb⟩; have L1 := hide (L1.out.call hb); clear hb) | (go_at_call 13; refine (SO.out _).mono ?_; rintro e v2 ⟨rfl, hb⟩; have L1 := hide (L1.out.call hb); clear hb))
         all_goals (
          go_wp2_with fail
          go_ret
          exact ⟨rfl, L1.out.f⟩))
      · have I3 := hide (I3'.out htu)
        have hq2 : (X16.toList == TL.toList) = false := by rw [list_beq, decide_eq_false htu]
        clear I3'
        go_wp2_with fail
        go_region_held (fun W' => rowC W' cb b.size F ∧ W'.cell? ⟨w1.heap.size, 1, none⟩ = some (.string M)) (first | exact ⟨R5.out, K5.out.c1⟩ | go_keep) (first | (go_at_call 10; refine (SM.out _).mono ?_; rintro e w6 ⟨rfl, hb6⟩; have R5 := hide (R5.out.below hb6); have K5 := hide (K5.out.call hb6); clear hb6))
        all_goals (
         have c0 := K5.out.c0
         have c1 := K5.out.c1
         go_wp2_with fail
         refine (I1.out _ K5.out.f).mono ?_
         rintro e w7 ⟨rfl, hb7⟩
         have R5 := hide (R5.out.below hb7)
         have K5 := hide (K5.out.call hb7)
         have c0 := K5.out.c0
         have c1 := K5.out.c1
         clear hb7 I1
         go_wp2_with fail
         refine (I2.out _ K5.out.f).mono ?_
         rintro e w8 ⟨rfl, hb8⟩
         have R5 := hide (R5.out.below hb8)
         have K5 := hide (K5.out.call hb8)
         have c0 := K5.out.c0
         have c1 := K5.out.c1
         clear hb8 I2
         have hcw := hcv0 _ R5.out
         go_wp2_with fail
         refine (I3.out _ K5.out.f).mono ?_
         rintro e w9 ⟨rfl, hb9⟩
         have K5 := hide (K5.out.call hb9)
         clear hb9 I3 hcw c0 c1 R5
         go_wp2_with fail
         refine (drawBlockOpen_any _ a1 len1 cap1 hl1 (BytesIn.lowB HB1.out K5.out.f)).mono ?_
         rintro e v1 ⟨H2, M2, id2, u, rfl, hu, hg⟩
         have L1 := hide (FbR.one (H := H2) (M := M2) (K5.out.f.trans ((grownBy_toBelow hg).mono K5.out.f.size)))
         have d0 := L1.out.c0
         have d1 := L1.out.c1
         have SO := fun W => spec_blockOpen H2 M2 u id2 W (by omega)
         have IO := fun W (h : Below w.heap.size w W) => imp_blockOpen H2 M2 u id2 W (HT.out.1.low h) (HT.out.2.low h) (by omega)
         unfold textO at SO IO
         generalize openS (H2, M2) id2 u = r at *
         obtain ⟨X2, z2⟩ := r
         dsimp only at SO IO
         have SO := hide SO
         have IO := hide IO
         clear hg K5
         go_wp2_with fail
         have L1 := hide L1.out.drew
         go_region_held3 (fun W' => W'.cell? ⟨v1.heap.size, 0, none⟩ = some (.string H2) ∧ W'.cell? ⟨v1.heap.size, 1, none⟩ = some (.string M2)) (first | exact ⟨L1.out.c0, L1.out.c1⟩ | go_keep) (first | (go_at_call 11; refine (IO.out _ L1.out.f).mono ?_; rintro e v2 ⟨rfl, hb⟩; have L1 := hide (L1.out.call hb); clear hb) | (go_at_call 13; refine (SO.out _).mono ?_; rintro e v2 ⟨rfl, hb⟩; have L1 := hide (L1.out.call hb); clear hb))
         all_goals (
          go_wp2_with fail
          go_ret
          exact ⟨rfl, L1.out.f⟩))
    · have hO2 := hO2 (id + 1) (by omega) (by omega) (by omega)
      have I2 := hide (fun W (h : Below w.heap.size w W) => by have h2 := imp_blockOpen H M b (id + 1) W (HT.out.1.low h) (HT.out.2.low h) (by omega); rw [hO2] at h2; unfold textO at h2; exact h2)
      clear hO2
      by_cases htu : X16 = TL
      · subst htu
        clear I3'
        go_wp2_with fail
        go_region_held (fun W' => rowC W' cb b.size F ∧ W'.cell? ⟨w1.heap.size, 1, none⟩ = some (.string M)) (first | exact ⟨R5.out, K5.out.c1⟩ | go_keep) (first | (go_at_call 10; refine (SM.out _).mono ?_; rintro e w6 ⟨rfl, hb6⟩; have R5 := hide (R5.out.below hb6); have K5 := hide (K5.out.call hb6); clear hb6))
        all_goals (
         have c0 := K5.out.c0
         have c1 := K5.out.c1
         go_wp2_with fail
         refine (I1.out _ K5.out.f).mono ?_
         rintro e w7 ⟨rfl, hb7⟩
         have R5 := hide (R5.out.below hb7)
         have K5 := hide (K5.out.call hb7)
         have c0 := K5.out.c0
         have c1 := K5.out.c1
         clear hb7 I1
         go_wp2_with fail
         refine (I2.out _ K5.out.f).mono ?_
         rintro e w8 ⟨rfl, hb8⟩
         have R5 := hide (R5.out.below hb8)
         have K5 := hide (K5.out.call hb8)
         have c0 := K5.out.c0
         have c1 := K5.out.c1
         clear hb8 I2
         clear c0 c1 R5
         go_wp2_with fail
         refine (drawBlockOpen_any _ a1 len1 cap1 hl1 (BytesIn.lowB HB1.out K5.out.f)).mono ?_
         rintro e v1 ⟨H2, M2, id2, u, rfl, hu, hg⟩
         have L1 := hide (FbR.one (H := H2) (M := M2) (K5.out.f.trans ((grownBy_toBelow hg).mono K5.out.f.size)))
         have d0 := L1.out.c0
         have d1 := L1.out.c1
         have SO := fun W => spec_blockOpen H2 M2 u id2 W (by omega)
         have IO := fun W (h : Below w.heap.size w W) => imp_blockOpen H2 M2 u id2 W (HT.out.1.low h) (HT.out.2.low h) (by omega)
         unfold textO at SO IO
         generalize openS (H2, M2) id2 u = r at *
         obtain ⟨X2, z2⟩ := r
         dsimp only at SO IO
         have SO := hide SO
         have IO := hide IO
         clear hg K5
         go_wp2_with fail
         have L1 := hide L1.out.drew
         go_region_held3 (fun W' => W'.cell? ⟨v1.heap.size, 0, none⟩ = some (.string H2) ∧ W'.cell? ⟨v1.heap.size, 1, none⟩ = some (.string M2)) (first | exact ⟨L1.out.c0, L1.out.c1⟩ | go_keep) (first | (go_at_call 11; refine (IO.out _ L1.out.f).mono ?_; rintro e v2 ⟨rfl, hb⟩; have L1 := hide (L1.out.call hb); clear hb) | (go_at_call 13; refine (SO.out _).mono ?_; rintro e v2 ⟨rfl, hb⟩; have L1 := hide (L1.out.call hb); clear hb))
         all_goals (
          go_wp2_with fail
          go_ret
          exact ⟨rfl, L1.out.f⟩))
      · have I3 := hide (I3'.out htu)
        have hq2 : (X16.toList == TL.toList) = false := by rw [list_beq, decide_eq_false htu]
        clear I3'
        go_wp2_with fail
        go_region_held (fun W' => rowC W' cb b.size F ∧ W'.cell? ⟨w1.heap.size, 1, none⟩ = some (.string M)) (first | exact ⟨R5.out, K5.out.c1⟩ | go_keep) (first | (go_at_call 10; refine (SM.out _).mono ?_; rintro e w6 ⟨rfl, hb6⟩; have R5 := hide (R5.out.below hb6); have K5 := hide (K5.out.call hb6); clear hb6))
        all_goals (
         have c0 := K5.out.c0
         have c1 := K5.out.c1
         go_wp2_with fail
         refine (I1.out _ K5.out.f).mono ?_
         rintro e w7 ⟨rfl, hb7⟩
         have R5 := hide (R5.out.below hb7)
         have K5 := hide (K5.out.call hb7)
         have c0 := K5.out.c0
         have c1 := K5.out.c1
         clear hb7 I1
         go_wp2_with fail
         refine (I2.out _ K5.out.f).mono ?_
         rintro e w8 ⟨rfl, hb8⟩
         have R5 := hide (R5.out.below hb8)
         have K5 := hide (K5.out.call hb8)
         have c0 := K5.out.c0
         have c1 := K5.out.c1
         clear hb8 I2
         have hcw := hcv0 _ R5.out
         go_wp2_with fail
         refine (I3.out _ K5.out.f).mono ?_
         rintro e w9 ⟨rfl, hb9⟩
         have K5 := hide (K5.out.call hb9)
         clear hb9 I3 hcw c0 c1 R5
         go_wp2_with fail
         refine (drawBlockOpen_any _ a1 len1 cap1 hl1 (BytesIn.lowB HB1.out K5.out.f)).mono ?_
         rintro e v1 ⟨H2, M2, id2, u, rfl, hu, hg⟩
         have L1 := hide (FbR.one (H := H2) (M := M2) (K5.out.f.trans ((grownBy_toBelow hg).mono K5.out.f.size)))
         have d0 := L1.out.c0
         have d1 := L1.out.c1
         have SO := fun W => spec_blockOpen H2 M2 u id2 W (by omega)
         have IO := fun W (h : Below w.heap.size w W) => imp_blockOpen H2 M2 u id2 W (HT.out.1.low h) (HT.out.2.low h) (by omega)
         unfold textO at SO IO
         generalize openS (H2, M2) id2 u = r at *
         obtain ⟨X2, z2⟩ := r
         dsimp only at SO IO
         have SO := hide SO
         have IO := hide IO
         clear hg K5
         go_wp2_with fail
         have L1 := hide L1.out.drew
         go_region_held3 (fun W' => W'.cell? ⟨v1.heap.size, 0, none⟩ = some (.string H2) ∧ W'.cell? ⟨v1.heap.size, 1, none⟩ = some (.string M2)) (first | exact ⟨L1.out.c0, L1.out.c1⟩ | go_keep) (first | (go_at_call 11; refine (IO.out _ L1.out.f).mono ?_; rintro e v2 ⟨rfl, hb⟩; have L1 := hide (L1.out.call hb); clear hb) | (go_at_call 13; refine (SO.out _).mono ?_; rintro e v2 ⟨rfl, hb⟩; have L1 := hide (L1.out.call hb); clear hb))
         all_goals (
          go_wp2_with fail
          go_ret
          exact ⟨rfl, L1.out.f⟩))
 · have hs : sealS (H, M) id far t = ⟨#[]⟩ := if_neg hok
   rw [hs] at SB IB
   have SB := hide SB
   have IB := hide IB
   clear hs hok
   go_wp2_with fail
   refine (IB.out _ (HT.out.1.low K1.out.f)).mono ?_
   rintro e w2 ⟨rfl, hb2⟩
   have K2 := hide (K1.out.call hb2)
   clear hb2 c0 c1 K1 IB
   have c0 := K2.out.c0
   have c1 := K2.out.c1
   go_wp2_with fail
   refine (SB.out _).mono ?_
   rintro e w3 ⟨rfl, hb3⟩
   have K3 := hide (K2.out.call hb3)
   clear hb3 c0 c1 K2 SB
   go_wp2_with fail
   refine (drawBlockOpen_any _ a1 len1 cap1 hl1 (BytesIn.lowB HB1.out K3.out.f)).mono ?_
   rintro e v1 ⟨H2, M2, id2, u, rfl, hu, hg⟩
   have L1 := hide (FbR.one (H := H2) (M := M2) (K3.out.f.trans ((grownBy_toBelow hg).mono K3.out.f.size)))
   have d0 := L1.out.c0
   have d1 := L1.out.c1
   have SO := fun W => spec_blockOpen H2 M2 u id2 W (by omega)
   have IO := fun W (h : Below w.heap.size w W) => imp_blockOpen H2 M2 u id2 W (HT.out.1.low h) (HT.out.2.low h) (by omega)
   unfold textO at SO IO
   generalize openS (H2, M2) id2 u = r at *
   obtain ⟨X2, z2⟩ := r
   dsimp only at SO IO
   have SO := hide SO
   have IO := hide IO
   clear hg K3
   go_wp2_with fail
   have L1 := hide L1.out.drew
   go_region_held3 (fun W' => W'.cell? ⟨v1.heap.size, 0, none⟩ = some (.string H2) ∧ W'.cell? ⟨v1.heap.size, 1, none⟩ = some (.string M2)) (first | exact ⟨L1.out.c0, L1.out.c1⟩ | go_keep) (first | (go_at_call 11; refine (IO.out _ L1.out.f).mono ?_; rintro e v2 ⟨rfl, hb⟩; have L1 := hide (L1.out.call hb); clear hb) | (go_at_call 13; refine (SO.out _).mono ?_; rintro e v2 ⟨rfl, hb⟩; have L1 := hide (L1.out.call hb); clear hb))
   all_goals (
    go_wp2_with fail
    go_ret
    exact ⟨rfl, L1.out.f⟩)
end Go.Proofs.YtconcnndghmdfaaGreatDoor
namespace Go.Proofs.YtconcnndghmdfaaGreatDoor
open Go.RowKit
set_option maxRecDepth 100000 in
set_option maxHeartbeats 800000 in
theorem fnBlock_walk (a0 : Option Addr) (len0 cap0 : Nat) (z0 : List Int) (a1 : Option Addr) (len1 cap1 : Nat) (z1 : List Int) (w : World) (w0 : IsRow .u8 w a0 len0 cap0 z0) (w1 : IsRow .u8 w a1 len1 cap1 z1) (htab : Tab w) (hl : Laid w) :
 Calls Tryz.prog 3 #[.slice a0 len0 cap0, .slice a1 len1 cap1] w fun e w' => e = .returned (.bool true) ∧ Below w.heap.size w w' := by
 have hb0 := bytesIn_of_row w0
 have hb1 := bytesIn_of_row w1
 have hm0 : len0 ≤ 9223372036854775807 := by
  rcases w0 with ⟨_, h, _⟩ | ⟨x, _, h, h2, _⟩
  · omega
  · unfold maxLen at h2; omega
 have hm1 : len1 ≤ 9223372036854775807 := by
  rcases w1 with ⟨_, h, _⟩ | ⟨x, _, h, h2, _⟩
  · omega
  · unfold maxLen at h2; omega
 clear w0 w1
 by_cases h0 : 1048576 < len0
 · clear hb0 hb1 htab hl
   go_enter Tryz.func3, Tryz.ntmps3
   go_wp2_with fail
   go_ret
   exact ⟨rfl, Below.refl _ _⟩
 · by_cases h1 : 1048576 < len1
   · have h0d : decide ((1048576 : Int) < (len0 : Int)) = false := decide_eq_false (by omega)
     have h1d : decide ((1048576 : Int) < (len1 : Int)) = true := decide_eq_true (by omega)
     clear hb0 hb1 htab hl
     go_enter Tryz.func3, Tryz.ntmps3
     go_wp2_with fail
     go_ret
     exact ⟨rfl, Below.refl _ _⟩
   · exact fnBlock_main a0 len0 cap0 a1 len1 cap1 w htab hl (by omega) (by omega) hb0 hb1
end Go.Proofs.YtconcnndghmdfaaGreatDoor
