/- Put together: ImpApartD, ImpDifA, SealPc, SealPd. -/
import Derived.Test.YtconcnndghmdfaaGreatDoorSa49
import Derived.Test.YtconcnndghmdfaaGreatDoorSa28
import Derived.Test.YtconcnndghmdfaaGreatDoorSa23
import Derived.Test.YtconcnndghmdfaaGreatDoorSa34
import Derived.Test.YtconcnndghmdfaaGreatDoorSa48
import Derived.Deep.RegionHeld3
import Derived.BigRegion
namespace Go.Proofs.YtconcnndghmdfaaGreatDoor
open Go.RowKit Go
set_option maxRecDepth 100000 in
set_option maxHeartbeats 1600000 in
theorem apart_D (M1 M2 : UInt8 → UInt8 → UInt8) (hM : ∀ (a b : UInt8) (w : World), Calls Tryz.prog 45 #[.int .u8 (a.toNat : Int), .int .u8 (b.toNat : Int)] w fun e w' => e = .returned (.tuple #[.int .u8 ((M1 a b).toNat : Int), .int .u8 ((M2 a b).toNat : Int)]) ∧ w' = w)
    (text : ByteArray) (far : Nat) (w : World) (b : Nat) (hcell : w.cell? ⟨b, 0, none⟩ = some (.string text)) (hbw : b < w.heap.size) (ht : text.size ≤ 20000) (hf1 : 1 ≤ far) (hf2 : far ≤ 256) :
    Calls Tryz.prog 46 #[.int .i64 (far : Int), .func (.func 45) #[] #[], .slice (some ⟨b, 0, none⟩) 1 1] w fun e w' => e = .returned (.string ⟨((List.range text.size).map (fun j => M1 (bF text j) (metF M2 (bF text) far j))).toArray⟩) ∧ Below w.heap.size w w' := by
  have hmk : ∀ w : World, (Instr.makeSlice 22 (.int .i64 text.size) (.int .i64 text.size)).run Tryz.prog w = .ok (.slice (some ⟨w.heap.size, 0, none⟩) text.size text.size) (w.alloc (.cells (madeCells #[.int .u8 0] text.size) 5)) := run_make_row' (P := Tryz.prog) 22 5 (.int .u8 0) 1 (by kernel_rfl) Tryz.infoA8 rfl .i64 .i64 text.size (by omega) (by omega)
  obtain ⟨hz, hsz⟩ := zero_of_info Tryz.infoRing
  have hso := hide (fun w h1 h2 h3 => sizeOf_any b [text] w h1 h2 h3)
  have e1 : (catB [text]).length = text.size := by simp [catB]
  have f1 : ¬ (far : Int) < 1 := by omega
  have f2 : ¬ (256 : Int) < (far : Int) := by omega
  have t1 : ¬ (20000 : Int) < (text.size : Int) := by omega
  obtain ⟨T, hT⟩ : ∃ T, T = bF text := ⟨_, rfl⟩
  have HT := hide (show ∀ k (hk : k < text.size), text[k] = T k from fun k hk => (bF_get' text k hk).trans (by rw [hT]))
  rw [← hT]
  clear hT
  go_enter Tryz.func46, Tryz.ntmps46
  go_wp2_with fail
  refine (hso.out _ (fun j hj => by match j, hj with | 0, _ => exact hcell) (by simp) (by rw [e1]; omega)).mono ?_
  rw [e1]
  rintro e w1 ⟨rfl, rfl⟩
  have r0 := row_alloc w1 94 256 (fun _ => 0)
  have r1 := World.rowIs_made (w1.alloc (.cells (bL 256 fun _ => 0).toArray 94)) (.int .u8 0) text.size 5
  have rb := ((Below.refl w1.heap.size w1).alloc (Nat.le_refl _) (.cells (bL 256 fun _ => 0).toArray 94)).alloc (by simp) (.cells (madeCells #[.int .u8 0] text.size) 5)
  have r0' := r0.alloc (.cells (madeCells #[.int .u8 0] text.size) 5)
  rw [World.size_alloc] at r1
  go_wp2_with fail
  clear hmk hz hso e1 f1 f2 t1 r0
  generalize (w1.alloc (.cells (bL 256 fun _ => 0).toArray 94)).alloc (.cells (madeCells #[.int .u8 0] text.size) 5) = W1 at *
  go_loopw [10, 31] (fun a i wx => ∃ (k n : Nat) (f r : Nat → UInt8), k ≤ 1 ∧ Hid (n = k * text.size) ∧ i = .int .i64 k ∧ a = .int .i64 n ∧ Hid (∀ j, j < n → f j = M1 (T j) (metF M2 T far j)) ∧ Hid (ringOk M2 T far n r) ∧ wx.rowIs w1.heap.size 94 256 (u8V r) ∧ wx.rowIs (w1.heap.size + 1) 5 text.size (u8V f) ∧ Below w1.heap.size w1 wx) (fun _ i _ => 1 - (intOf i).toNat)
  case atStart => exact ⟨0, 0, fun _ => 0, fun _ => 0, by omega, (Nat.zero_mul _).symm, rfl, rfl, fun j hj => by omega, ⟨fun j hj => by omega, fun _ _ _ => rfl⟩, r0', r1, rb⟩
  case round =>
    clear r0' r1 rb
    obtain ⟨k, n, f, r, hk, hn, rfl, rfl, hf, hr, r0, r1, rb⟩ := hrel
    by_cases hlt : k = 0
    · obtain rfl : n = 0 := by have := hn.out; rw [hlt] at this; omega
      have hcw : wr.cell? ⟨b, k, none⟩ = some (.string text) := by rw [hlt]; exact (rb.cell (p := ⟨b, 0, none⟩) hbw).trans hcell
      have hk1 : k < 1 := by omega
      have hk2 : (k : Int) < 1 := by omega
      have HK := hide hlt
      clear hn hlt
      go_wp2_with fail
      go_loopw [10, 37] (fun a i wx => ∃ (n : Nat) (f r : Nat → UInt8), n ≤ text.size ∧ i = .int .i64 n ∧ a = .int .i64 n ∧ Hid (∀ j, j < n → f j = M1 (T j) (metF M2 T far j)) ∧ Hid (ringOk M2 T far n r) ∧ wx.rowIs w1.heap.size 94 256 (u8V r) ∧ wx.rowIs (w1.heap.size + 1) 5 text.size (u8V f) ∧ Below w1.heap.size w1 wx) (fun _ i _ => text.size - (intOf i).toNat)
      case atStart => exact ⟨0, f, r, by omega, rfl, rfl, hf, hr, r0, r1, rb⟩
      case round =>
        clear r0 r1 rb hf hr f r
        obtain ⟨n, f, r, hn, rfl, rfl, hf, hr, r0, r1, rb⟩ := hrel
        by_cases hlt : n < text.size
        · have hlt' : (n : Int) < (text.size : Int) := by omega
          obtain ⟨q, hq⟩ : ∃ q, q = n % far := ⟨_, rfl⟩
          have hq1 : q < far := by rw [hq]; exact Nat.mod_lt _ (by omega)
          have hq2 : (n : Int) % (far : Int) = (q : Int) := by rw [hq]; rfl
          have hq3 : (q : Int) < 256 := by omega
          have hf0 : ¬ (far : Int) = 0 := by omega
          have cq : wr.cell? ⟨w1.heap.size, q, none⟩ = some (.int .u8 ((r q).toNat : Int)) := r0.cell (i := q) (by omega)
          have HB := hide (HT.out n hlt)
          have HR := hide (show r q = metF M2 T far n by rw [hq]; exact ring_at hr.out (by omega))
          have HQ := hide hq
          have cB := hM text[n] (r q)
          obtain ⟨R, hR⟩ : ∃ R, R = r q := ⟨_, rfl⟩
          obtain ⟨Y, hY⟩ : ∃ Y, Y = M1 text[n] R := ⟨_, rfl⟩
          obtain ⟨Z, hZ⟩ : ∃ Z, Z = M2 text[n] R := ⟨_, rfl⟩
          rw [← hR] at cq HR cB
          rw [← hY, ← hZ] at cB
          have HY := hide (show Y = M1 (T n) (metF M2 T far n) by rw [hY, HB.out, HR.out])
          have HZ := hide (show Z = keptF M2 T far n by rw [hZ, HB.out, HR.out, keptF_eq])
          have CB := hide cB
          clear hq hR hY hZ cB HR HB
          have fq := r0.frozen q
          have cn := r1.cell (i := n) hlt
          have fn := r1.frozen n
          go_wp2_with fail
          go_region_with (go_at_call 45; refine (CB.out _).mono ?_; rintro e w2 ⟨rfl, rfl⟩)
          all_goals
            clear cq fq cn fn hq2 hf0 hcell hcw CB hM
            go_wp2_with fail
            go_roundw
            case rel =>
              refine ⟨n + 1, fun j => if j = n then Y else f j, fun j => if j = q then Z else r j, by omega, by go_num, by go_num, fun j hj => ?_, by have h := ring_next hr.out HZ.out; rw [← HQ.out] at h; exact h, ?_, ?_, ?_⟩
              · show (if j = n then Y else f j) = _
                by_cases e : j = n
                · rw [if_pos e, e, HY.out]
                · rw [if_neg e]; exact hf.out j (by omega)
              · first
                  | exact (set_byte (r0.setOther (by simp) _) rfl).drew
                  | exact ((set_byte r0 rfl).setOther (by simp) _).drew
              · first
                  | exact ((set_byte r1 rfl).setOther (by simp) _).drew
                  | exact (set_byte (r1.setOther (by simp) _) rfl).drew
              · first
                  | exact ((rb.setCell (by simp) _).setCell (by simp) _).drew
            case measure => simp [intOf]; omega
        · have hn1 : n = text.size := by omega
          subst hn1
          have hlt' : ¬ (text.size : Int) < (text.size : Int) := by omega
          clear hcw
          go_wp2_with fail
          go_roundw
          case rel => exact ⟨k + 1, text.size, f, r, by omega, by rw [HK.out]; exact (Nat.one_mul _).symm, by go_num, rfl, hf, hr, r0, r1, rb⟩
          case measure => simp [intOf]; omega
    · obtain rfl : k = 1 := by omega
      have hn1 : n = text.size := by have := hn.out; omega
      subst hn1
      have hcv := conv_row (P := Tryz.prog) (cap := text.size) (l := (List.range text.size).map (fun j => M1 (T j) (metF M2 T far j))) r1 (fun j hj => by rw [List.getElem?_map, List.getElem?_range hj, hf.out j hj]; rfl) (by simp) Tryz.underlying22 Tryz.underlying5 Tryz.underlying9
      clear hn hf
      go_wp2_with fail
      go_ret
      exact ⟨rfl, rb⟩
end Go.Proofs.YtconcnndghmdfaaGreatDoor
namespace Go.Proofs.YtconcnndghmdfaaGreatDoor
open Go.RowKit Go
set_option maxRecDepth 100000 in
theorem dif_meet (a b : UInt8) (w : World) : Calls Tryz.prog 45 #[.int .u8 (a.toNat : Int), .int .u8 (b.toNat : Int)] w fun e w' => e = .returned (.tuple #[.int .u8 ((a - b).toNat : Int), .int .u8 (a.toNat : Int)]) ∧ w' = w := by
  have h := sub8 a b
  obtain ⟨X, hX⟩ : ∃ X, X = a - b := ⟨_, rfl⟩
  rw [← hX] at h ⊢
  clear hX
  go_enter Tryz.func45, Tryz.ntmps45
  go_wp2_with fail
  go_ret2
  exact ⟨rfl, rfl⟩
theorem apart_dif (text : ByteArray) (far : Int) (w : World) (ht : text.size ≤ 9223372036854775807) :
    Calls Tryz.prog 46 #[.int .i64 far, .func (.func 45) #[] #[], .slice (some ⟨w.heap.size, 0, none⟩) 1 1] (w.alloc (.cells #[.string text] 9)) fun e w' => e = .returned (.string (differS text far)) ∧ Below w.heap.size w w' := by
  have hb0 := (Below.refl w.heap.size w).alloc (Nat.le_refl _) (.cells #[.string text] 9)
  by_cases h : farOk text far
  · have hE : differS text far = ⟨((List.range text.size).map (difF (bF text) far.toNat)).toArray⟩ := if_pos h
    rw [hE]
    obtain ⟨h1, h2, h3⟩ := h
    obtain ⟨n, rfl⟩ := Int.eq_ofNat_of_zero_le (show 0 ≤ far by omega)
    refine (apart_D (fun a b => a - b) (fun a _ => a) dif_meet text n _ w.heap.size (text_cell w text _) (by simp) h1 (by omega) (by omega)).mono ?_
    rintro e w' ⟨rfl, hb⟩
    refine ⟨?_, hb0.trans (hb.mono (by simp))⟩
    congr 5
    funext j; exact dif_met (bF text) n j (by omega)
  · have hE : differS text far = ⟨#[]⟩ := if_neg h
    rw [hE]
    refine (apart_no _ text far _ w.heap.size (text_cell w text _) ht h).mono ?_
    rintro e w' ⟨rfl, hb⟩
    exact ⟨rfl, hb0.trans (hb.mono (by simp))⟩
set_option maxRecDepth 100000 in
theorem imp_differ (text : ByteArray) (far : Int) (w : World) (ht : text.size ≤ 9223372036854775807) :
    Calls Tryz.prog 26 #[.string text, .int .i64 far] w fun e w' => e = .returned (.string (differS text far)) ∧ Below w.heap.size w w' := by
  have S := hide (fun w => apart_dif text far w ht)
  generalize differS text far = R at *
  go_enter Tryz.func26, Tryz.ntmps26
  go_wp2_with fail
  refine (S.out w).mono ?_
  rintro e w1 ⟨rfl, hb1⟩
  go_wp2_with fail
  go_ret
  exact ⟨rfl, hb1⟩
end Go.Proofs.YtconcnndghmdfaaGreatDoor
namespace Go.Proofs.YtconcnndghmdfaaGreatDoor
open Go.RowKit
set_option maxRecDepth 100000 in
set_option maxHeartbeats 16000000 in
theorem imp_sealGoodF (H M : ByteArray) (id far : Int) (t : ByteArray) (w : World) (htab : Tab w) (hk : keysOk (H, M) = true) (h0 : 0 ≤ id) (h1 : id ≤ 2000000) (h2 : 0 ≤ far) (h3 : far ≤ 256) (ht : t.size ≤ 4000) (hf0 : 0 < far) :
    Calls Tryz.prog 7 #[.agg #[.string H, .string M], .int .i64 id, .int .i64 far, .string t] w fun e w' => e = .returned (.string (sealB (H, M) id far t)) ∧ Below w.heap.size w w' := by
  obtain ⟨hH, hM⟩ : H.size = 16 ∧ M.size = 32 := by unfold keysOk at hk; simpa using hk
  have hi : idOk id = true := by unfold idOk; simp; omega
  have hr : farOk10 far = true := by unfold farOk10; simp; omega
  have SK := hide (fun W => by have h := imp_keysRight H M W; rw [hk] at h; exact h)
  have SI := hide (fun W => by have h := imp_idRight id W; rw [hi] at h; exact h)
  have SR := hide (fun W => by have h := imp_farRight far W; rw [hr] at h; exact h)
  clear hi hr hk
  obtain ⟨N, rfl⟩ := Int.eq_ofNat_of_zero_le h0
  obtain ⟨F, rfl⟩ := Int.eq_ofNat_of_zero_le h2
  have d4 : ¬ (4000 : Int) < (t.size : Int) := by omega
  have d5 : decide ((4000 : Int) < (t.size : Int)) = false := decide_eq_false d4
  have hsz := sealT_size (H, M) (N : Int) (F : Int) t h0 h1 h2 h3 ht
  have hp := packB_few (difB t (F : Int)) (by rw [difB_size]; exact ht)
  have hds : (difB t (F : Int)).size ≤ 4000 := by rw [difB_size]; exact ht
  have hpk : packS (difB t (F : Int)) = packB (difB t (F : Int)) := if_pos hds
  obtain ⟨num, hnum⟩ : ∃ f : Int → ByteArray, f = fun n => ⟨(encNum (foldNum n)).toArray⟩ := ⟨_, rfl⟩
  have SN0 : ∀ (n : Int) (W : World), 0 ≤ n → n ≤ 2000000 → Calls Tryz.prog 28 #[.int .i64 n] W fun e w' => e = .returned (.string (num n)) ∧ Below W.heap.size W w' := fun n W a b => by rw [hnum]; exact impl_putNum n W (by omega) (by omega)
  have SN := hide SN0
  clear SN0
  have SP0 : ∀ W : World, Calls Tryz.prog 30 #[.string (difB t (F : Int))] W fun e w' => e = .returned (.string (packB (difB t (F : Int)))) ∧ Below W.heap.size W w' := fun W => by have h := imp_pack (difB t (F : Int)) W (by omega); rw [hpk] at h; exact h
  have SP := hide SP0
  clear SP0
  have SC := hide (fun W => imp_ctrA H (packB (difB t (F : Int))) N W hH (by omega) (by omega))
  have E := hide (show sealB (H, M) (N : Int) (F : Int) t = sealT (H, M) (N : Int) (F : Int) t ++ take16 (macT M (sealT (H, M) (N : Int) (F : Int) t)) from rfl)
  have ET := hide (show sealT (H, M) (N : Int) (F : Int) t = (num (N : Int) ++ num (F : Int)) ++ ⟨(ctrL (kB (keyF H)) N (bF (packB (difB t (F : Int)))) (packB (difB t (F : Int))).size).toArray⟩ by rw [hnum]; rfl)
  have HT := hide htab
  clear hnum hpk htab
  obtain ⟨D, hD⟩ : ∃ D, D = difB t (F : Int) := ⟨_, rfl⟩
  rw [← hD] at SP SC ET
  have HD := hide hD
  generalize packB D = PD at *
  generalize (⟨(ctrL (kB (keyF H)) N (bF PD) PD.size).toArray⟩ : ByteArray) = C at *
  generalize sealB (H, M) (N : Int) (F : Int) t = Z at *
  generalize sealT (H, M) (N : Int) (F : Int) t = T at *
  have SX0 : ∀ (B : Nat) (W : World), Below w.heap.size w W → W.heap[B]? = some (.cells #[.string (num (N : Int)), .string (num (F : Int)), .string C] 9 (0, 0)) →
      Calls Tryz.prog 27 #[.agg #[.string H, .string M], .slice (some ⟨B, 0, none⟩) 3 3] W fun e w' => e = .returned (.string Z) ∧ Below W.heap.size W w' := fun B W hl hc => by
    have h := imp_sealed H M (num (N : Int)) (num (F : Int)) C B W (by omega) (by rw [← ET.out]; omega) (HT.out.low hl) hc
    rw [← ET.out, ← E.out] at h
    exact h
  have SX := hide SX0
  clear SX0
  clear ET E HT hsz hp hds hD
  have DN := hide (show ¬ (0 : Int) < (F : Int) → D = t from fun h => HD.out.trans (if_neg h))
  have hf : (0 : Int) < (F : Int) := hf0
  · have SD0 : ∀ W : World, Calls Tryz.prog 26 #[.string t, .int .i64 (F : Int)] W fun e w' => e = .returned (.string D) ∧ Below W.heap.size W w' := fun W => by
      have h := imp_differ t (F : Int) W (by omega)
      have hfo : farOk t (F : Int) := ⟨by omega, by omega, by omega⟩
      rw [show differS t (F : Int) = D from (if_pos hfo).trans (HD.out.trans (if_pos hf)).symm] at h
      exact h
    have SD := hide SD0
    clear SD0
    clear HD DN
    go_enter Tryz.func7, Tryz.ntmps7
    go_wp2_with fail
    refine (SK.out _).mono ?_
    rintro e w1 ⟨rfl, hb1⟩
    have HB := KeyW.one hb1
    have c0 := HB.c0
    have c1 := HB.c1
    clear hb1 SK
    go_wp2_with fail
    refine (SI.out _).mono ?_
    rintro e w2 ⟨rfl, hb2⟩
    have HB := HB.call hb2
    have c0 := HB.c0
    have c1 := HB.c1
    clear hb2 SI
    go_wp2_with fail
    refine (SR.out _).mono ?_
    rintro e w3 ⟨rfl, hb3⟩
    have HB := HB.call hb3
    have c0 := HB.c0
    have c1 := HB.c1
    clear hb3 SR
    go_wp2_with fail
    refine (SD.out _).mono ?_
    rintro e w4 ⟨rfl, hb4⟩
    have HB := HB.call hb4
    have c0 := HB.c0
    have c1 := HB.c1
    clear hb4 SD
    go_wp2_with fail
    go_region_held3 (fun W' => W'.cell? ⟨w.heap.size, 0, none⟩ = some (.string H) ∧ W'.cell? ⟨w.heap.size, 1, none⟩ = some (.string M)) (first | exact ⟨c0, c1⟩ | exact ⟨HB.drew.c0, HB.drew.c1⟩ | exact ⟨a0, a1⟩ | exact ⟨(HB.alloc _).c0, (HB.alloc _).c1⟩ | go_keep) (first | (go_at_call 28; refine (SN.out _ _ (by omega) (by omega)).mono ?_; rintro e w2 ⟨rfl, hb2⟩; have HB := (show KeyW w H M w2 by first | exact HB.call hb2 | exact HB.call' hb2); have c0 := HB.c0; have c1 := HB.c1; clear hb2) | (go_at_call 30; refine (SP.out _).mono ?_; rintro e w2 ⟨rfl, hb2⟩; have HB := (show KeyW w H M w2 by first | exact HB.call hb2 | exact HB.call' hb2); have c0 := HB.c0; have c1 := HB.c1; clear hb2) | (go_at_call 29; refine (SC.out _).mono ?_; rintro e w2 ⟨rfl, hb2⟩; have HB := (show KeyW w H M w2 by first | exact HB.call hb2 | exact HB.call' hb2); have c0 := HB.c0; have c1 := HB.c1; clear hb2; have HA := HB.alloc (.cells #[.string (num (N : Int)), .string (num (F : Int)), .string C] 9); have a0 := HA.c0; have a1 := HA.c1; clear HA) | (go_at_call 27; refine (SX.out _ _ (by first | exact HB.low.alloc HB.low.size _ | exact (HB.low.alloc HB.low.size _).drew | exact HB.low.drew.alloc HB.low.drew.size _) (by first | exact heap_alloc_new _ _ | simp)).mono ?_; rintro e w2 ⟨rfl, hb2⟩; have HB := (show KeyW w H M w2 by first | exact (HB.alloc _).call hb2 | exact (HB.alloc _).call' hb2); have c0 := HB.c0; have c1 := HB.c1; clear hb2))
    all_goals (
      go_wp2_with fail
      go_ret
      exact ⟨rfl, HB.low⟩)
end Go.Proofs.YtconcnndghmdfaaGreatDoor
namespace Go.Proofs.YtconcnndghmdfaaGreatDoor
open Go.RowKit
set_option maxRecDepth 100000 in
set_option maxHeartbeats 16000000 in
theorem imp_sealGoodN (H M : ByteArray) (id far : Int) (t : ByteArray) (w : World) (htab : Tab w) (hk : keysOk (H, M) = true) (h0 : 0 ≤ id) (h1 : id ≤ 2000000) (h2 : 0 ≤ far) (h3 : far ≤ 256) (ht : t.size ≤ 4000) (hf0 : ¬ 0 < far) :
    Calls Tryz.prog 7 #[.agg #[.string H, .string M], .int .i64 id, .int .i64 far, .string t] w fun e w' => e = .returned (.string (sealB (H, M) id far t)) ∧ Below w.heap.size w w' := by
  obtain ⟨hH, hM⟩ : H.size = 16 ∧ M.size = 32 := by unfold keysOk at hk; simpa using hk
  have hi : idOk id = true := by unfold idOk; simp; omega
  have hr : farOk10 far = true := by unfold farOk10; simp; omega
  have SK := hide (fun W => by have h := imp_keysRight H M W; rw [hk] at h; exact h)
  have SI := hide (fun W => by have h := imp_idRight id W; rw [hi] at h; exact h)
  have SR := hide (fun W => by have h := imp_farRight far W; rw [hr] at h; exact h)
  clear hi hr hk
  obtain ⟨N, rfl⟩ := Int.eq_ofNat_of_zero_le h0
  obtain ⟨F, rfl⟩ := Int.eq_ofNat_of_zero_le h2
  have d4 : ¬ (4000 : Int) < (t.size : Int) := by omega
  have d5 : decide ((4000 : Int) < (t.size : Int)) = false := decide_eq_false d4
  have hsz := sealT_size (H, M) (N : Int) (F : Int) t h0 h1 h2 h3 ht
  have hp := packB_few (difB t (F : Int)) (by rw [difB_size]; exact ht)
  have hds : (difB t (F : Int)).size ≤ 4000 := by rw [difB_size]; exact ht
  have hpk : packS (difB t (F : Int)) = packB (difB t (F : Int)) := if_pos hds
  obtain ⟨num, hnum⟩ : ∃ f : Int → ByteArray, f = fun n => ⟨(encNum (foldNum n)).toArray⟩ := ⟨_, rfl⟩
  have SN0 : ∀ (n : Int) (W : World), 0 ≤ n → n ≤ 2000000 → Calls Tryz.prog 28 #[.int .i64 n] W fun e w' => e = .returned (.string (num n)) ∧ Below W.heap.size W w' := fun n W a b => by rw [hnum]; exact impl_putNum n W (by omega) (by omega)
  have SN := hide SN0
  clear SN0
  have SP0 : ∀ W : World, Calls Tryz.prog 30 #[.string (difB t (F : Int))] W fun e w' => e = .returned (.string (packB (difB t (F : Int)))) ∧ Below W.heap.size W w' := fun W => by have h := imp_pack (difB t (F : Int)) W (by omega); rw [hpk] at h; exact h
  have SP := hide SP0
  clear SP0
  have SC := hide (fun W => imp_ctrA H (packB (difB t (F : Int))) N W hH (by omega) (by omega))
  have E := hide (show sealB (H, M) (N : Int) (F : Int) t = sealT (H, M) (N : Int) (F : Int) t ++ take16 (macT M (sealT (H, M) (N : Int) (F : Int) t)) from rfl)
  have ET := hide (show sealT (H, M) (N : Int) (F : Int) t = (num (N : Int) ++ num (F : Int)) ++ ⟨(ctrL (kB (keyF H)) N (bF (packB (difB t (F : Int)))) (packB (difB t (F : Int))).size).toArray⟩ by rw [hnum]; rfl)
  have HT := hide htab
  clear hnum hpk htab
  obtain ⟨D, hD⟩ : ∃ D, D = difB t (F : Int) := ⟨_, rfl⟩
  rw [← hD] at SP SC ET
  have HD := hide hD
  generalize packB D = PD at *
  generalize (⟨(ctrL (kB (keyF H)) N (bF PD) PD.size).toArray⟩ : ByteArray) = C at *
  generalize sealB (H, M) (N : Int) (F : Int) t = Z at *
  generalize sealT (H, M) (N : Int) (F : Int) t = T at *
  have SX0 : ∀ (B : Nat) (W : World), Below w.heap.size w W → W.heap[B]? = some (.cells #[.string (num (N : Int)), .string (num (F : Int)), .string C] 9 (0, 0)) →
      Calls Tryz.prog 27 #[.agg #[.string H, .string M], .slice (some ⟨B, 0, none⟩) 3 3] W fun e w' => e = .returned (.string Z) ∧ Below W.heap.size W w' := fun B W hl hc => by
    have h := imp_sealed H M (num (N : Int)) (num (F : Int)) C B W (by omega) (by rw [← ET.out]; omega) (HT.out.low hl) hc
    rw [← ET.out, ← E.out] at h
    exact h
  have SX := hide SX0
  clear SX0
  clear ET E HT hsz hp hds hD
  have DN := hide (show ¬ (0 : Int) < (F : Int) → D = t from fun h => HD.out.trans (if_neg h))
  have hf : ¬ (0 : Int) < (F : Int) := hf0
  · have e := DN.out hf
    subst e
    clear HD DN
    go_enter Tryz.func7, Tryz.ntmps7
    go_wp2_with fail
    refine (SK.out _).mono ?_
    rintro e w1 ⟨rfl, hb1⟩
    have HB := KeyW.one hb1
    have c0 := HB.c0
    have c1 := HB.c1
    clear hb1 SK
    go_wp2_with fail
    refine (SI.out _).mono ?_
    rintro e w2 ⟨rfl, hb2⟩
    have HB := HB.call hb2
    have c0 := HB.c0
    have c1 := HB.c1
    clear hb2 SI
    go_wp2_with fail
    refine (SR.out _).mono ?_
    rintro e w3 ⟨rfl, hb3⟩
    have HB := HB.call hb3
    have c0 := HB.c0
    have c1 := HB.c1
    clear hb3 SR
    go_wp2_with fail
    go_region_held3 (fun W' => W'.cell? ⟨w.heap.size, 0, none⟩ = some (.string H) ∧ W'.cell? ⟨w.heap.size, 1, none⟩ = some (.string M)) (first | exact ⟨c0, c1⟩ | exact ⟨HB.drew.c0, HB.drew.c1⟩ | exact ⟨a0, a1⟩ | exact ⟨(HB.alloc _).c0, (HB.alloc _).c1⟩ | go_keep) (first | (go_at_call 28; refine (SN.out _ _ (by omega) (by omega)).mono ?_; rintro e w2 ⟨rfl, hb2⟩; have HB := (show KeyW w H M w2 by first | exact HB.call hb2 | exact HB.call' hb2); have c0 := HB.c0; have c1 := HB.c1; clear hb2) | (go_at_call 30; refine (SP.out _).mono ?_; rintro e w2 ⟨rfl, hb2⟩; have HB := (show KeyW w H M w2 by first | exact HB.call hb2 | exact HB.call' hb2); have c0 := HB.c0; have c1 := HB.c1; clear hb2) | (go_at_call 29; refine (SC.out _).mono ?_; rintro e w2 ⟨rfl, hb2⟩; have HB := (show KeyW w H M w2 by first | exact HB.call hb2 | exact HB.call' hb2); have c0 := HB.c0; have c1 := HB.c1; clear hb2; have HA := HB.alloc (.cells #[.string (num (N : Int)), .string (num (F : Int)), .string C] 9); have a0 := HA.c0; have a1 := HA.c1; clear HA) | (go_at_call 27; refine (SX.out _ _ (by first | exact HB.low.alloc HB.low.size _ | exact (HB.low.alloc HB.low.size _).drew | exact HB.low.drew.alloc HB.low.drew.size _) (by first | exact heap_alloc_new _ _ | simp)).mono ?_; rintro e w2 ⟨rfl, hb2⟩; have HB := (show KeyW w H M w2 by first | exact (HB.alloc _).call hb2 | exact (HB.alloc _).call' hb2); have c0 := HB.c0; have c1 := HB.c1; clear hb2))
    all_goals (
      go_wp2_with fail
      go_ret
      exact ⟨rfl, HB.low⟩)
end Go.Proofs.YtconcnndghmdfaaGreatDoor
