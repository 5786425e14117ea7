/- Put together: ImpApartS, ImpDifB, RngT, RngG, UnpF. -/
import Derived.Test.YtconcnndghmdfaaGreatDoorSf41
import Derived.Test.YtconcnndghmdfaaGreatDoorSf16
namespace Go.Proofs.YtconcnndghmdfaaGreatDoor
open Go.RowKit Go
set_option maxRecDepth 100000 in
set_option maxHeartbeats 1600000 in
theorem apart_S (M1 M2 : UInt8 → UInt8 → UInt8) (hM : ∀ (a b : UInt8) (w : World), Calls Tryz.prog 102 #[.int .u8 (a.toNat : Int), .int .u8 (b.toNat : Int)] w fun e w' => e = .returned (.tuple #[.int .u8 ((M1 a b).toNat : Int), .int .u8 ((M2 a b).toNat : Int)]) ∧ w' = w)
 (text : ByteArray) (far : Nat) (w : World) (b : Nat) (hcell : w.cell? ⟨b, 0, none⟩ = some (.string text)) (hbw : b < w.heap.size) (ht : text.size ≤ 20000) (hf1 : 1 ≤ far) (hf2 : far ≤ 256) :
 Calls Tryz.prog 46 #[.int .i64 (far : Int), .func (.func 102) #[] #[], .slice (some ⟨b, 0, none⟩) 1 1] w fun e w' => e = .returned (.string ⟨((List.range text.size).map (fun j => M1 (bF text j) (metF M2 (bF text) far j))).toArray⟩) ∧ Below w.heap.size w w' := by
 have hmk : ∀ w : World, (Instr.makeSlice 22 (.int .i64 text.size) (.int .i64 text.size)).run Tryz.prog w = .ok (.slice (some ⟨w.heap.size, 0, none⟩) text.size text.size) (w.alloc (.cells (madeCells #[.int .u8 0] text.size) 5)) := run_make_row' (P := Tryz.prog) 22 5 (.int .u8 0) 1 (by kernel_rfl) Tryz.infoA8 rfl .i64 .i64 text.size (by omega) (by omega)
 obtain ⟨hz, hsz⟩ := zero_of_info Tryz.infoRing
 have hso := hide (fun w h1 h2 h3 => sizeOf_any b [text] w h1 h2 h3)
 have e1 : (catB [text]).length = text.size := by simp [catB]
 have f1 : ¬ (far : Int) < 1 := by omega
 have f2 : ¬ (256 : Int) < (far : Int) := by omega
 have t1 : ¬ (20000 : Int) < (text.size : Int) := by omega
 obtain ⟨T, hT⟩ : ∃ T, T = bF text := ⟨_, rfl⟩
 have HT := hide (show ∀ k (hk : k < text.size), text[k] = T k from fun k hk => (bF_get' text k hk).trans (by rw [hT]))
 rw [← hT]
 clear hT
 go_enter Tryz.func46, Tryz.ntmps46
 go_wp2_with fail
 refine (hso.out _ (fun j hj => by match j, hj with | 0, _ => exact hcell) (by simp) (by rw [e1]; omega)).mono ?_
 rw [e1]
 rintro e w1 ⟨rfl, rfl⟩
 have r0 := row_alloc w1 94 256 (fun _ => 0)
 have r1 := World.rowIs_made (w1.alloc (.cells (bL 256 fun _ => 0).toArray 94)) (.int .u8 0) text.size 5
 have rb := ((Below.refl w1.heap.size w1).alloc (Nat.le_refl _) (.cells (bL 256 fun _ => 0).toArray 94)).alloc (by simp) (.cells (madeCells #[.int .u8 0] text.size) 5)
 have r0' := r0.alloc (.cells (madeCells #[.int .u8 0] text.size) 5)
 rw [World.size_alloc] at r1
 go_wp2_with fail
 clear hmk hz hso e1 f1 f2 t1 r0
 generalize (w1.alloc (.cells (bL 256 fun _ => 0).toArray 94)).alloc (.cells (madeCells #[.int .u8 0] text.size) 5) = W1 at *
 go_loopw [10, 31] (fun a i wx => ∃ (k n : Nat) (f r : Nat → UInt8), k ≤ 1 ∧ Hid (n = k * text.size) ∧ i = .int .i64 k ∧ a = .int .i64 n ∧ Hid (∀ j, j < n → f j = M1 (T j) (metF M2 T far j)) ∧ Hid (ringOk M2 T far n r) ∧ wx.rowIs w1.heap.size 94 256 (u8V r) ∧ wx.rowIs (w1.heap.size + 1) 5 text.size (u8V f) ∧ Below w1.heap.size w1 wx) (fun _ i _ => 1 - (intOf i).toNat)
 case atStart => exact ⟨0, 0, fun _ => 0, fun _ => 0, by omega, (Nat.zero_mul _).symm, rfl, rfl, fun j hj => by omega, ⟨fun j hj => by omega, fun _ _ _ => rfl⟩, r0', r1, rb⟩
 case round =>
  clear r0' r1 rb
  obtain ⟨k, n, f, r, hk, hn, rfl, rfl, hf, hr, r0, r1, rb⟩ := hrel
  by_cases hlt : k = 0
  · obtain rfl : n = 0 := by have := hn.out; rw [hlt] at this; omega
    have hcw : wr.cell? ⟨b, k, none⟩ = some (.string text) := by rw [hlt]; exact (rb.cell (p := ⟨b, 0, none⟩) hbw).trans hcell
    have hk1 : k < 1 := by omega
    have hk2 : (k : Int) < 1 := by omega
    have HK := hide hlt
    clear hn hlt
    go_wp2_with fail
    go_loopw [10, 37] (fun a i wx => ∃ (n : Nat) (f r : Nat → UInt8), n ≤ text.size ∧ i = .int .i64 n ∧ a = .int .i64 n ∧ Hid (∀ j, j < n → f j = M1 (T j) (metF M2 T far j)) ∧ Hid (ringOk M2 T far n r) ∧ wx.rowIs w1.heap.size 94 256 (u8V r) ∧ wx.rowIs (w1.heap.size + 1) 5 text.size (u8V f) ∧ Below w1.heap.size w1 wx) (fun _ i _ => text.size - (intOf i).toNat)
    case atStart => exact ⟨0, f, r, by omega, rfl, rfl, hf, hr, r0, r1, rb⟩
    case round =>
     clear r0 r1 rb hf hr f r
     obtain ⟨n, f, r, hn, rfl, rfl, hf, hr, r0, r1, rb⟩ := hrel
     by_cases hlt : n < text.size
     · have hlt' : (n : Int) < (text.size : Int) := by omega
       obtain ⟨q, hq⟩ : ∃ q, q = n % far := ⟨_, rfl⟩
       have hq1 : q < far := by rw [hq]; exact Nat.mod_lt _ (by omega)
       have hq2 : (n : Int) % (far : Int) = (q : Int) := by rw [hq]; rfl
       have hq3 : (q : Int) < 256 := by omega
       have hf0 : ¬ (far : Int) = 0 := by omega
       have cq : wr.cell? ⟨w1.heap.size, q, none⟩ = some (.int .u8 ((r q).toNat : Int)) := r0.cell (i := q) (by omega)
       have HB := hide (HT.out n hlt)
       have HR := hide (show r q = metF M2 T far n by rw [hq]; exact ring_at hr.out (by omega))
       have HQ := hide hq
       have cB := hM text[n] (r q)
       obtain ⟨R, hR⟩ : ∃ R, R = r q := ⟨_, rfl⟩
       obtain ⟨Y, hY⟩ : ∃ Y, Y = M1 text[n] R := ⟨_, rfl⟩
       obtain ⟨Z, hZ⟩ : ∃ Z, Z = M2 text[n] R := ⟨_, rfl⟩
       rw [← hR] at cq HR cB
       rw [← hY, ← hZ] at cB
       have HY := hide (show Y = M1 (T n) (metF M2 T far n) by rw [hY, HB.out, HR.out])
       have HZ := hide (show Z = keptF M2 T far n by rw [hZ, HB.out, HR.out, keptF_eq])
       have CB := hide cB
       clear hq hR hY hZ cB HR HB
       have fq := r0.frozen q
       have cn := r1.cell (i := n) hlt
       have fn := r1.frozen n
       go_wp2_with fail
       go_region_with (go_at_call 102; refine (CB.out _).mono ?_; rintro e w2 ⟨rfl, rfl⟩)
       all_goals
        clear cq fq cn fn hq2 hf0 hcell hcw CB hM
        go_wp2_with fail
        go_roundw
        case rel =>
         refine ⟨n + 1, fun j => if j = n then Y else f j, fun j => if j = q then Z else r j, by omega, by go_num, by go_num, fun j hj => ?_, by have h := ring_next hr.out HZ.out; rw [← HQ.out] at h; exact h, ?_, ?_, ?_⟩
         · show (if j = n then Y else f j) = _
           by_cases e : j = n
           · rw [if_pos e, e, HY.out]
           · rw [if_neg e]; exact hf.out j (by omega)
         · first
            | exact (set_byte (r0.setOther (by simp) _) rfl).drew
            | exact ((set_byte r0 rfl).setOther (by simp) _).drew
         · first
            | exact ((set_byte r1 rfl).setOther (by simp) _).drew
            | exact (set_byte (r1.setOther (by simp) _) rfl).drew
         · first
            | exact ((rb.setCell (by simp) _).setCell (by simp) _).drew
        case measure => simp [intOf]; omega
     · have hn1 : n = text.size := by omega
       subst hn1
       have hlt' : ¬ (text.size : Int) < (text.size : Int) := by omega
       clear hcw
       go_wp2_with fail
       go_roundw
       case rel => exact ⟨k + 1, text.size, f, r, by omega, by rw [HK.out]; exact (Nat.one_mul _).symm, by go_num, rfl, hf, hr, r0, r1, rb⟩
       case measure => simp [intOf]; omega
  · obtain rfl : k = 1 := by omega
    have hn1 : n = text.size := by have := hn.out; omega
    subst hn1
    have hcv := conv_row (P := Tryz.prog) (cap := text.size) (l := (List.range text.size).map (fun j => M1 (T j) (metF M2 T far j))) r1 (fun j hj => by rw [List.getElem?_map, List.getElem?_range hj, hf.out j hj]; rfl) (by simp) Tryz.underlying22 Tryz.underlying5 Tryz.underlying9
    clear hn hf
    go_wp2_with fail
    go_ret
    exact ⟨rfl, rb⟩
set_option maxRecDepth 100000 in
theorem sum_meet (a b : UInt8) (w : World) : Calls Tryz.prog 102 #[.int .u8 (a.toNat : Int), .int .u8 (b.toNat : Int)] w fun e w' => e = .returned (.tuple #[.int .u8 ((a + b).toNat : Int), .int .u8 ((a + b).toNat : Int)]) ∧ w' = w := by
 have h := add8 a b
 obtain ⟨X, hX⟩ : ∃ X, X = a + b := ⟨_, rfl⟩
 rw [← hX] at h ⊢
 clear hX
 go_enter Tryz.func102, Tryz.ntmps102
 go_wp2_with fail
 go_ret2
 exact ⟨rfl, rfl⟩
theorem apart_sum (text : ByteArray) (far : Int) (w : World) (ht : text.size ≤ 9223372036854775807) :
 Calls Tryz.prog 46 #[.int .i64 far, .func (.func 102) #[] #[], .slice (some ⟨w.heap.size, 0, none⟩) 1 1] (w.alloc (.cells #[.string text] 9)) fun e w' => e = .returned (.string (sumS text far)) ∧ Below w.heap.size w w' := by
 have hb0 := (Below.refl w.heap.size w).alloc (Nat.le_refl _) (.cells #[.string text] 9)
 by_cases h : farOk text far
 · have hE : sumS text far = ⟨((List.range text.size).map (sumF (bF text) far.toNat)).toArray⟩ := if_pos h
   rw [hE]
   obtain ⟨h1, h2, h3⟩ := h
   obtain ⟨n, rfl⟩ := Int.eq_ofNat_of_zero_le (show 0 ≤ far by omega)
   refine (apart_S (fun a b => a + b) (fun a b => a + b) sum_meet text n _ w.heap.size (text_cell w text _) (by simp) h1 (by omega) (by omega)).mono ?_
   rintro e w' ⟨rfl, hb⟩
   refine ⟨?_, hb0.trans (hb.mono (by simp))⟩
   congr 5
   funext j; exact (keptF_eq (fun a b => a + b) (bF text) n j).symm.trans (sum_kept (bF text) n (by omega) j)
 · have hE : sumS text far = ⟨#[]⟩ := if_neg h
   rw [hE]
   refine (apart_no _ text far _ w.heap.size (text_cell w text _) ht h).mono ?_
   rintro e w' ⟨rfl, hb⟩
   exact ⟨rfl, hb0.trans (hb.mono (by simp))⟩
set_option maxRecDepth 100000 in
theorem imp_sum (text : ByteArray) (far : Int) (w : World) (ht : text.size ≤ 9223372036854775807) :
 Calls Tryz.prog 66 #[.string text, .int .i64 far] w fun e w' => e = .returned (.string (sumS text far)) ∧ Below w.heap.size w w' := by
 have S := hide (fun w => apart_sum text far w ht)
 generalize sumS text far = R at *
 go_enter Tryz.func66, Tryz.ntmps66
 go_wp2_with fail
 refine (S.out w).mono ?_
 rintro e w1 ⟨rfl, hb1⟩
 go_wp2_with fail
 go_ret
 exact ⟨rfl, hb1⟩
end Go.Proofs.YtconcnndghmdfaaGreatDoor
namespace Go.Proofs.YtconcnndghmdfaaGreatDoor
open Go.RowKit
def restOf (t : ByteArray) (k : Nat) : ByteArray := t.extract k t.size
theorem rest_size (t : ByteArray) (k : Nat) : (restOf t k).size = t.size - k := by unfold restOf; rw [ByteArray.size_extract]; omega
theorem rest_at (t : ByteArray) (k : Nat) (h : k < t.size) : ((restOf t k)[0]'(by rw [rest_size]; omega)).toNat = tbN t k := by
 have h1 : (restOf t k)[0]'(by rw [rest_size]; omega) = t[k] := by
  unfold restOf
  rw [ByteArray.getElem_extract]
  congr 1
 rw [h1]; exact tbN_in t k h
theorem rest_next (t : ByteArray) (k : Nat) : (restOf t k).extract 1 (restOf t k).size = restOf t (k + 1) := by
 rw [rest_size]
 unfold restOf
 rw [ByteArray.extract_extract]
 congr 1; omega
theorem rest_end (t : ByteArray) (k : Nat) (h : t.size ≤ k) : restOf t k = restOf t (k + 1) := by
 have e : ∀ j, t.size ≤ j → restOf t j = ByteArray.empty := fun j hj => ByteArray.size_eq_zero_iff.1 (by rw [rest_size]; omega)
 rw [e k h, e (k + 1) (by omega)]
set_option maxRecDepth 100000 in
set_option maxHeartbeats 800000 in
theorem imp_take (g size x k : Nat) (ch : Nat → Nat) (t : ByteArray) (w : World) (hts : t.size ≤ 9223372036854775807) (hr : w.rowIs g 199 1603 (cdF size ch x (.string (restOf t k)))) :
 Calls Tryz.prog 145 #[.pointer (some ⟨g, 0, none⟩)] w fun e w' => e = .returned (.tuple #[]) ∧ w'.rowIs g 199 1603 (cdF size ch ((256 * x + tbN t k) % 18446744073709551616) (.string (restOf t (k + 1)))) ∧ w.grownBy w' (some g) := by
 obtain ⟨_, c1, c2, _⟩ := cd_cells hr
 have f1 := hr.frozen 1601
 have f2 := hr.frozen 1602
 obtain ⟨X, hX⟩ : ∃ X, X = x * 256 % 18446744073709551616 := ⟨_, rfl⟩
 have kX : (x : Int) * 256 % 18446744073709551616 = (X : Int) := by omega
 have kX2 : IntKind.u64.wrap ((x : Int) * 256) = (X : Int) := by rw [IntKind.wrap_u64]; omega
 have R1 := (cd_set hr).2.1 X
 obtain ⟨_, d1, d2, _⟩ := cd_cells R1
 have e1 := R1.frozen 1601
 have e2 := R1.frozen 1602
 have G1 := grownBy_set (i := 1601) (grown0 w (some g)) (.int .u64 (X : Int))
 have hsz := rest_size t k
 by_cases hlt : k < t.size
 · have hb := rest_at t k hlt
   have hn := rest_next t k
   have htb8 := tbN_lt t k
   obtain ⟨R, hR⟩ : ∃ R, R = restOf t k := ⟨_, rfl⟩
   have hRs : 0 < R.size := by rw [hR, hsz]; omega
   have hRs' : (0 : Int) < (R.size : Int) := by omega
   have hRs2 : (1 : Int) ≤ (R.size : Int) := by omega
   have hR63 : R.size ≤ 9223372036854775807 := by rw [hR, hsz]; omega
   obtain ⟨b, hbe⟩ : ∃ b, b = tbN t k := ⟨_, rfl⟩
   have hb0 : (R[0]).toNat = b := by rw [hbe, ← hb]; simp only [hR]
   obtain ⟨N, hN⟩ : ∃ N, N = restOf t (k + 1) := ⟨_, rfl⟩
   rw [← hR, ← hN] at hn
   rw [← hR] at hr c2 R1 d2
   obtain ⟨Y, hY⟩ : ∃ Y, Y = (256 * x + b) % 18446744073709551616 := ⟨_, rfl⟩
   have kY : IntKind.u64.wrap ((X : Int) + (b : Int)) = (Y : Int) := by rw [IntKind.wrap_u64]; omega
   have kb : IntKind.u64.wrap (b : Int) = (b : Int) := by rw [IntKind.wrap_u64]; omega
   have HE := hide (show Y = (256 * x + tbN t k) % 18446744073709551616 ∧ N = restOf t (k + 1) from ⟨by rw [hY, hbe], hN⟩)
   have H := hide (And.intro R1 G1)
   clear hb hX hY hN hbe hR hsz hr R1 G1
   go_enter Tryz.func145, Tryz.ntmps145
   go_wp2_with fail
   generalize w.setCell ⟨g, 1601, none⟩ (.int .u64 (X : Int)) = W1 at *
   clear c1 c2 f1 f2
   obtain ⟨R1, G1⟩ := H.out
   have R2 := ((cd_set R1).2.1 Y).drew
   have G2 := grownBy_drew (grownBy_set (i := 1601) G1 (.int .u64 (Y : Int)))
   have H2 := hide (And.intro R2 G2)
   clear R1 G1 H R2 G2
   go_region
   obtain ⟨R2, G2⟩ := H2.out
   clear d1 d2 e1 e2 H2 kX kX2 kY kb
   generalize (W1.setCell ⟨g, 1601, none⟩ (.int .u64 (Y : Int))).drew = W2 at *
   obtain ⟨_, d1, d2, _⟩ := cd_cells R2
   have e2 := R2.frozen 1602
   have R3 := (cd_set R2).2.2.1 (.string N)
   have G3 := grownBy_set (i := 1602) G2 (.string N)
   have H3 := hide (And.intro R3 G3)
   clear R2 G2 R3 G3
   go_wp2_with fail
   go_end0
   exact ⟨rfl, by rw [← HE.out.1, ← HE.out.2]; exact H3.out.1, H3.out.2⟩
 · have HE := hide (show X = (256 * x + tbN t k) % 18446744073709551616 ∧ restOf t k = restOf t (k + 1) from ⟨by rw [tbN_far t k (by omega), hX]; omega, rest_end t k (by omega)⟩)
   obtain ⟨R, hR⟩ : ∃ R, R = restOf t k := ⟨_, rfl⟩
   have hRs : R.size = 0 := by rw [hR, hsz]; omega
   have hRs' : ¬ (0 : Int) < (R.size : Int) := by omega
   have H := hide (And.intro R1 G1)
   rw [← hR] at c2 d2 H HE
   clear hX hsz hr R1 G1 hR
   go_enter Tryz.func145, Tryz.ntmps145
   go_wp2_with fail
   go_end0
   exact ⟨rfl, by rw [← HE.out.1, ← HE.out.2]; exact H.out.1, H.out.2⟩
def DecP (w : World) (g : Nat) (t : ByteArray) (s : RC) (x : Nat) : Prop := w.rowIs g 199 1603 (cdF s.size s.ch x (.string (restOf t (s.n + 4))))
set_option maxRecDepth 100000 in
set_option maxHeartbeats 800000 in
theorem imp_newDecoder (t : ByteArray) (w : World) (hts : t.size ≤ 9223372036854775807) :
 Calls Tryz.prog 131 #[.string t] w fun e w' => ∃ g, e = .returned (.pointer (some ⟨g, 0, none⟩)) ∧ w.heap.size ≤ g ∧ DecP w' g t rc0 (pv (tbN t) 4) ∧ Below w.heap.size w w' := by
 go_enter Tryz.func131, Tryz.ntmps131
 go_wp2_with fail
 refine (imp_parting w).mono ?_
 rintro e w2 ⟨rfl, hb2⟩
 have HBT := hide (Tryz.builtDec 4294967295 (fun _ => 1024) t)
 go_wp2_with (first | (with_reducible (show wpList _ _ _ ({ dst := _, op := .build _ _, type := _, pos := _, after := _, guard := _ } :: _) _ _); refine wpList_build_2 rfl 199 0 _ 2 _ rfl (.agg (vL 1601 (parF 4294967295 fun _ => 1024)).toArray) rfl (.string t) rfl _ HBT.out ?_))
 have R3 := vrow_alloc w2 199 1603 (cdF 4294967295 (fun _ => 1024) 0 (.string t))
 have B3 := hide (hb2.alloc hb2.size (.cells (vL 1603 (cdF 4294967295 (fun _ => 1024) 0 (.string t))).toArray 199))
 have hg2 := hb2.size
 generalize w2.alloc (.cells (vL 1603 (cdF 4294967295 (fun _ => 1024) 0 (.string t))).toArray 199) = W3 at *
 generalize w2.heap.size = g at *
 have hrest : restOf t 0 = t := by unfold restOf; exact ByteArray.extract_zero_size
 have R0 := hide (show W3.rowIs g 199 1603 (cdF 4294967295 (fun _ => 1024) 0 (.string (restOf t 0))) by rw [hrest]; exact R3)
 clear hrest R3 hb2 HBT
 go_loopw [8] (fun i wx => ∃ k : Nat, k ≤ 4 ∧ i = .int .i64 k ∧ Hid (wx.rowIs g 199 1603 (cdF 4294967295 (fun _ => 1024) (pv (tbN t) k) (.string (restOf t k)))) ∧ Hid (Below w.heap.size w wx)) (fun i _ => 4 - (intOf i).toNat)
 case atStart => exact ⟨0, by omega, rfl, R0, B3⟩
 case round =>
  clear R0 B3
  obtain ⟨k, hk, rfl, hr, hb⟩ := hrel
  by_cases hk4 : k < 4
  · have hk4' : (k : Int) < 4 := by omega
    have hp := pv_lt (tbN t) (tbN_lt t) k
    have hp2 : 256 ^ k ≤ 256 ^ 3 := Nat.pow_le_pow_right (by omega) (by omega)
    have hp3 : pv (tbN t) k < 16777216 := Nat.lt_of_lt_of_le hp hp2
    have ht8 := tbN_lt t k
    have SN := hide (imp_take g 4294967295 (pv (tbN t) k) k (fun _ => 1024) t wr hts hr.out)
    rw [Nat.mod_eq_of_lt (by omega)] at SN
    have hgl := hr.out.lt
    clear hr
    go_wp2_with fail
    refine SN.out.mono ?_
    rintro e w2 ⟨rfl, hr2, hg2'⟩
    have hb2 := hide (hb.out.trans (grownBy_below hg2' hg2 hb.out.size))
    have hr3 := hide hr2
    clear hr2 hg2' hb SN
    go_wp2_with fail
    go_roundw
    case rel => exact ⟨k + 1, by omega, by go_num, hr3, hb2⟩
    case measure => simp [intOf]; omega
  · have hk4' : ¬ (k : Int) < 4 := by omega
    have hfin := hide (show DecP wr g t rc0 (pv (tbN t) 4) by have h := hr.out; rw [show k = 4 by omega] at h; exact h)
    clear hr
    go_wp2_with fail
    go_ret
    exact ⟨g, rfl, hg2, hfin.out, hb.out⟩
set_option maxRecDepth 100000 in
set_option maxHeartbeats 1600000 in
theorem imp_get (g c x : Nat) (t : ByteArray) (s : RC) (w : World) (hok : RcOk s) (hc : c < 1600) (hx : x < 18446744073709551616) (hts : t.size ≤ 9223372036854775807) (hdec : DecP w g t s x) :
 Calls Tryz.prog 162 #[.pointer (some ⟨g, 0, none⟩), .int .i64 (c : Int)] w fun e w' => e = .returned (.bool (dbit s x c)) ∧ DecP w' g t (step s c (dbit s x c)) (dx (tbN t) s x c) ∧ w.grownBy w' (some g) := by
 obtain ⟨P, hP⟩ : ∃ P, P = part1 s c (dbit s x c) := ⟨_, rfl⟩
 have hpo := part1_ok s c (dbit s x c) hok
 rw [← hP] at hpo
 have HPS := hide hP
 have HNOK := hide (norm_ok P hpo.1 hpo.2.1 hpo.2.2.1 (by rw [hpo.2.2.2.2]; exact hpo.2.2.2.1))
 have HPN := hide (show P.n = s.n from hpo.2.2.2.2)
 obtain ⟨b1, b2⟩ := bound_in s c hok
 have hhi := hok.hi
 have hch := hok.ch c
 obtain ⟨b, hb⟩ : ∃ b, b = bound s c := ⟨_, rfl⟩
 have HB := hide (show s.size / 2048 * s.ch c = b from hb.symm)
 have HB2 := hide hb
 rw [← hb] at b1 b2
 have hr : w.rowIs g 199 1603 (cdF s.size s.ch x (.string (restOf t (s.n + 4)))) := hdec
 obtain ⟨V, hV⟩ : ∃ V, V = Value.string (restOf t (s.n + 4)) := ⟨_, rfl⟩
 rw [← hV] at hr
 have HV := hide hV
 have SB := hide (imp_bound g 199 s.size x c s.ch V w hhi hc (by omega) hr)
 rw [HB.out] at SB
 obtain ⟨x1, hx1⟩ : ∃ x1, x1 = dx1 s x c := ⟨_, rfl⟩
 have HX1E := hide hx1
 have hx1lt : x1 < 18446744073709551616 := by rw [hx1]; unfold dx1; split <;> omega
 by_cases hbx : b ≤ x
 · have hbx' : (b : Int) ≤ (x : Int) := by omega
   have HBIT := hide (show dbit s x c = true by unfold dbit; rw [← hb]; exact decide_eq_true hbx)
   have hx1' : x1 = x - b := by rw [hx1, dx1, ← hb, if_pos hbx]
   have kx : (x : Int) - (b : Int) = (x1 : Int) := by omega
   have kx2 : IntKind.u64.wrap ((x : Int) - (b : Int)) = (x1 : Int) := by rw [IntKind.wrap_u64]; omega
   have HPE := hide (show P = ⟨s.size - b, setCh s.ch c (chOne (s.ch c)), s.low + b, s.n⟩ by rw [HPS.out, HBIT.out, hb]; rfl)
   have HR := hide hr
   clear hP hpo hb hdec hV hx1 hx1' hr
   go_enter Tryz.func162, Tryz.ntmps162
   go_wp2_with fail
   refine SB.out.mono ?_
   rintro e w1 ⟨rfl, m, hw1⟩
   have R1 : w1.rowIs g 199 1603 (cdF s.size s.ch x V) := by rw [hw1]; exact HR.out
   have G1 : w.grownBy w1 (some g) := by rw [hw1]; exact ⟨rfl, rfl, rfl, Nat.le_refl _, fun _ _ _ => rfl⟩
   obtain ⟨_, c1, _, _⟩ := cd_cells R1
   have f1 := R1.frozen 1601
   have R2 := (cd_set R1).2.1 x1
   have G2 := grownBy_set (i := 1601) G1 (.int .u64 (x1 : Int))
   have SN := hide (imp_narrow g 199 s.size x1 c b true s.ch V (w1.setCell ⟨g, 1601, none⟩ (.int .u64 (x1 : Int))) hhi (by omega) hc (by omega) R2)
   have HG := hide G2
   clear hw1 R1 G1 SB R2 G2 HR
   go_wp2_with fail
   refine SN.out.mono ?_
   rintro e w3 ⟨rfl, r3, g3⟩
   have HROW := hide (show w3.rowIs g 199 1603 (cdF P.size P.ch x1 (.string (restOf t (P.n + 4)))) by rw [HPE.out, ← HV.out]; exact r3)
   have HBEL := hide (grownBy_trans HG.out g3)
   clear r3 g3 SN HG c1 f1 kx kx2
   have HPE2 := hide (show P = part1 s c true by rw [HPS.out, HBIT.out])
   go_wp2_with fail
   go_loopw [35] (fun _ wx => ∃ (u : RC) (y : Nat), Hid ((u = P ∧ y = x1) ∨ (u = norm P ∧ P.size < 16777216 ∧ y = (256 * x1 + tbN t (s.n + 4)) % 18446744073709551616)) ∧ Hid (DecP wx g t u y) ∧ Hid (w.grownBy wx (some g))) (fun _ wx => if size0 wx g < 16777216 then 1 else 0)
   case atStart => exact ⟨P, x1, .inl ⟨rfl, rfl⟩, HROW, HBEL⟩
   case round =>
    clear HROW HBEL
    obtain ⟨u, y, hu, hrow, hbel⟩ := hrel
    have hr : wr.rowIs g 199 1603 (cdF u.size u.ch y (.string (restOf t (u.n + 4)))) := hrow.out
    have hsw := hide (size0_of (cd_cells hr).1)
    by_cases hsz : u.size < 16777216
    · have huP : u = P ∧ y = x1 := by
       rcases hu.out with h | ⟨h, h2, _⟩
       · exact h
       · rw [h] at hsz; exact absurd hsz (by have := HNOK.out.lo; omega)
      have SW := hide (imp_widen_yes g 199 u.size y u.ch _ wr hsz hr)
      have HT := hide huP
      clear hr huP hrow hu
      go_wp2_with fail
      refine SW.out.mono ?_
      rintro e w1 ⟨rfl, r1, g1⟩
      have ST := hide (imp_take g (256 * u.size) y (u.n + 4) u.ch t w1 hts r1)
      have hb1 := hide (grownBy_trans hbel.out g1)
      clear r1 g1 SW hbel
      go_wp2_with fail
      refine ST.out.mono ?_
      rintro e w2 ⟨rfl, r2, g2⟩
      have hb3 := hide (grownBy_trans hb1.out g2)
      have hs3 := hide (size0_of (cd_cells r2).1)
      have hC3 := hide (show DecP w2 g t (norm P) ((256 * x1 + tbN t (s.n + 4)) % 18446744073709551616) by
       have h := HT.out
       rw [norm, if_pos (by rw [← h.1]; exact hsz), ← HPN.out, ← h.1, ← h.2]; exact r2)
      clear r2 g2 hb1 ST
      go_wp2_with fail
      go_roundw
      case rel => exact ⟨norm P, _, .inr ⟨rfl, by rw [← HT.out.1]; exact hsz, rfl⟩, hC3, hb3⟩
      case measure =>
       rw [hs3.out, hsw.out, if_pos hsz, if_neg (by have h := HNOK.out.lo; rw [norm, if_pos (by rw [← HT.out.1]; exact hsz)] at h; have h' : 16777216 ≤ 256 * P.size := h; rw [← HT.out.1] at h'; omega)]
       omega
    · have hfin := hide (show DecP wr g t (norm P) (if P.size < 16777216 then (256 * x1 + tbN t (s.n + 4)) % 18446744073709551616 else x1) by
       have h0 := hrow.out
       rcases hu.out with ⟨h1, h2⟩ | ⟨h1, h2, h3⟩
       · rw [norm, if_neg (by rw [← h1]; exact hsz), if_neg (by rw [← h1]; exact hsz), ← h1, ← h2]; exact h0
       · rw [if_pos h2, ← h1, ← h3]; exact h0)
      have SW := hide (imp_widen_no g 199 u.size y u.ch _ wr hsz hr)
      clear hr hu hrow
      go_wp2_with fail
      refine SW.out.mono ?_
      rintro e w1 ⟨rfl, rfl⟩
      go_wp2_with fail
      go_ret
      exact ⟨by rw [HBIT.out]; rfl, by rw [HBIT.out]; show DecP _ g t (norm (part1 s c _)) (dx (tbN t) s x c); rw [dx, HBIT.out, ← HPE2.out, ← HX1E.out]; exact hfin.out, hbel.out⟩
 · have hbx' : ¬ (b : Int) ≤ (x : Int) := by omega
   have HBIT := hide (show dbit s x c = false by unfold dbit; rw [← hb]; exact decide_eq_false hbx)
   have hx1' : x1 = x := by rw [hx1, dx1, ← hb, if_neg hbx]
   have HPE := hide (show P = ⟨b, setCh s.ch c (chNot (s.ch c)), s.low, s.n⟩ by rw [HPS.out, HBIT.out, hb]; rfl)
   have HX1 := hide hx1'
   have HR := hide hr
   clear hP hpo hb hdec hV hx1 hx1' hr
   go_enter Tryz.func162, Tryz.ntmps162
   go_wp2_with fail
   refine SB.out.mono ?_
   rintro e w1 ⟨rfl, m, hw1⟩
   have R1 : w1.rowIs g 199 1603 (cdF s.size s.ch x V) := by rw [hw1]; exact HR.out
   have G1 : w.grownBy w1 (some g) := by rw [hw1]; exact ⟨rfl, rfl, rfl, Nat.le_refl _, fun _ _ _ => rfl⟩
   obtain ⟨_, c1, _, _⟩ := cd_cells R1
   have SN := hide (imp_narrow g 199 s.size x c b false s.ch V w1 hhi (by omega) hc (by omega) R1)
   have HG := hide G1
   clear hw1 R1 G1 SB HR
   go_wp2_with fail
   refine SN.out.mono ?_
   rintro e w3 ⟨rfl, r3, g3⟩
   have HROW := hide (show w3.rowIs g 199 1603 (cdF P.size P.ch x1 (.string (restOf t (P.n + 4)))) by rw [HPE.out, ← HV.out, HX1.out]; exact r3)
   have HBEL := hide (grownBy_trans HG.out g3)
   clear r3 g3 SN HG c1
   have HPE2 := hide (show P = part1 s c false by rw [HPS.out, HBIT.out])
   go_wp2_with fail
   go_loopw [35] (fun _ wx => ∃ (u : RC) (y : Nat), Hid ((u = P ∧ y = x1) ∨ (u = norm P ∧ P.size < 16777216 ∧ y = (256 * x1 + tbN t (s.n + 4)) % 18446744073709551616)) ∧ Hid (DecP wx g t u y) ∧ Hid (w.grownBy wx (some g))) (fun _ wx => if size0 wx g < 16777216 then 1 else 0)
   case atStart => exact ⟨P, x1, .inl ⟨rfl, rfl⟩, HROW, HBEL⟩
   case round =>
    clear HROW HBEL
    obtain ⟨u, y, hu, hrow, hbel⟩ := hrel
    have hr : wr.rowIs g 199 1603 (cdF u.size u.ch y (.string (restOf t (u.n + 4)))) := hrow.out
    have hsw := hide (size0_of (cd_cells hr).1)
    by_cases hsz : u.size < 16777216
    · have huP : u = P ∧ y = x1 := by
       rcases hu.out with h | ⟨h, h2, _⟩
       · exact h
       · rw [h] at hsz; exact absurd hsz (by have := HNOK.out.lo; omega)
      have SW := hide (imp_widen_yes g 199 u.size y u.ch _ wr hsz hr)
      have HT := hide huP
      clear hr huP hrow hu
      go_wp2_with fail
      refine SW.out.mono ?_
      rintro e w1 ⟨rfl, r1, g1⟩
      have ST := hide (imp_take g (256 * u.size) y (u.n + 4) u.ch t w1 hts r1)
      have hb1 := hide (grownBy_trans hbel.out g1)
      clear r1 g1 SW hbel
      go_wp2_with fail
      refine ST.out.mono ?_
      rintro e w2 ⟨rfl, r2, g2⟩
      have hb3 := hide (grownBy_trans hb1.out g2)
      have hs3 := hide (size0_of (cd_cells r2).1)
      have hC3 := hide (show DecP w2 g t (norm P) ((256 * x1 + tbN t (s.n + 4)) % 18446744073709551616) by
       have h := HT.out
       rw [norm, if_pos (by rw [← h.1]; exact hsz), ← HPN.out, ← h.1, ← h.2]; exact r2)
      clear r2 g2 hb1 ST
      go_wp2_with fail
      go_roundw
      case rel => exact ⟨norm P, _, .inr ⟨rfl, by rw [← HT.out.1]; exact hsz, rfl⟩, hC3, hb3⟩
      case measure =>
       rw [hs3.out, hsw.out, if_pos hsz, if_neg (by have h := HNOK.out.lo; rw [norm, if_pos (by rw [← HT.out.1]; exact hsz)] at h; have h' : 16777216 ≤ 256 * P.size := h; rw [← HT.out.1] at h'; omega)]
       omega
    · have hfin := hide (show DecP wr g t (norm P) (if P.size < 16777216 then (256 * x1 + tbN t (s.n + 4)) % 18446744073709551616 else x1) by
       have h0 := hrow.out
       rcases hu.out with ⟨h1, h2⟩ | ⟨h1, h2, h3⟩
       · rw [norm, if_neg (by rw [← h1]; exact hsz), if_neg (by rw [← h1]; exact hsz), ← h1, ← h2]; exact h0
       · rw [if_pos h2, ← h1, ← h3]; exact h0)
      have SW := hide (imp_widen_no g 199 u.size y u.ch _ wr hsz hr)
      clear hr hu hrow
      go_wp2_with fail
      refine SW.out.mono ?_
      rintro e w1 ⟨rfl, rfl⟩
      go_wp2_with fail
      go_ret
      exact ⟨by rw [HBIT.out]; rfl, by rw [HBIT.out]; show DecP _ g t (norm (part1 s c _)) (dx (tbN t) s x c); rw [dx, HBIT.out, ← HPE2.out, ← HX1E.out]; exact hfin.out, hbel.out⟩
end Go.Proofs.YtconcnndghmdfaaGreatDoor
namespace Go.Proofs.YtconcnndghmdfaaGreatDoor
def dtok (tb : Nat → Nat) (st : RC × Nat) : Tok × (RC × Nat) :=
 if dbit st.1 st.2 0 = true then (⟨0, (((readG tb 300 6 (dnext tb st 0) 1).2 - 64 + 3 : Nat) : Int), (((readG tb 400 10 (readG tb 300 6 (dnext tb st 0) 1).1 1).2 - 1024 + 1 : Nat) : Int)⟩, (readG tb 400 10 (readG tb 300 6 (dnext tb st 0) 1).1 1).1)
 else (⟨(((readG tb 16 8 (dnext tb st 0) 1).2 - 256 : Nat) : Int), 0, 0⟩, (readG tb 16 8 (dnext tb st 0) 1).1)
def tsz (x : Tok) : Nat := (tokSize x.m).toNat
def dtoks (tb : Nat → Nat) (size : Nat) : Nat → RC × Nat → Nat → List Tok
 | 0, _, _ => []
 | k + 1, st, made => if made < size then (dtok tb st).1 :: dtoks tb size k (dtok tb st).2 (made + tsz (dtok tb st).1) else []
def growT (x : Tok) (b : List UInt8) : Option (List UInt8) :=
 if x.m = 0 then some (b ++ [UInt8.ofNat x.b.toNat]) else if b.length < x.f.toNat then none else some (copyN x.f.toNat x.m.toNat b)
def growL : List Tok → List UInt8 → Option (List UInt8)
 | [], b => some b
 | x :: l, b => (growT x b).bind (growL l)
theorem growL_app : ∀ l k b, growL (l ++ k) b = (growL l b).bind (growL k)
 | [], _, _ => rfl
 | x :: l, k, b => by
   show (growT x b).bind (growL (l ++ k)) = ((growT x b).bind (growL l)).bind (growL k)
   cases growT x b with
   | none => rfl
   | some c => exact growL_app l k c
theorem dtok_two (tb : Nat → Nat) (st : RC × Nat) : (∃ y : Nat, y < 256 ∧ (dtok tb st).1 = ⟨(y : Int), 0, 0⟩) ∨ ∃ M F : Nat, 3 ≤ M ∧ M ≤ 66 ∧ 1 ≤ F ∧ F ≤ 1024 ∧ (dtok tb st).1 = ⟨0, (M : Int), (F : Int)⟩ := by
 unfold dtok
 split
 · have h1 := (readG_node tb 300 6 (dnext tb st 0) 1).2
   have h2 := (readG_node tb 400 10 (readG tb 300 6 (dnext tb st 0) 1).1 1).2
   have e1 : (1 + 1) * 2 ^ 6 = 128 := rfl
   have e2 : (1 + 1) * 2 ^ 10 = 2048 := rfl
   exact .inr ⟨_, _, by omega, by omega, by omega, by omega, rfl⟩
 · have h1 := (readG_node tb 16 8 (dnext tb st 0) 1).2
   have e1 : (1 + 1) * 2 ^ 8 = 512 := rfl
   exact .inl ⟨_, by omega, rfl⟩
theorem tsz_byte (y : Int) : tsz ⟨y, 0, 0⟩ = 1 := rfl
theorem tsz_match (M F : Nat) (h : 3 ≤ M) : tsz ⟨0, (M : Int), (F : Int)⟩ = M := by
 show (tokSize (M : Int)).toNat = M
 unfold tokSize
 rw [if_neg (by omega)]; omega
theorem growT_byte (y : Nat) (b : List UInt8) : growT ⟨(y : Int), 0, 0⟩ b = some (b ++ [UInt8.ofNat y]) := rfl
theorem growT_match (M F : Nat) (b : List UInt8) (h : 3 ≤ M) : growT ⟨0, (M : Int), (F : Int)⟩ b = if b.length < F then none else some (copyN F M b) := by
 show (if (M : Int) = 0 then _ else if b.length < ((F : Int)).toNat then none else some (copyN ((F : Int)).toNat ((M : Int)).toNat b)) = _
 rw [if_neg (by omega), Int.toNat_natCast, Int.toNat_natCast]
theorem tsz_pos (tb : Nat → Nat) (st : RC × Nat) : 1 ≤ tsz (dtok tb st).1 ∧ tsz (dtok tb st).1 ≤ 66 := by
 rcases dtok_two tb st with ⟨y, _, e⟩ | ⟨M, F, h1, h2, _, _, e⟩
 · rw [e, tsz_byte]; omega
 · rw [e, tsz_match M F h1]; omega
theorem growT_len (tb : Nat → Nat) (st : RC × Nat) (b c : List UInt8) (h : growT (dtok tb st).1 b = some c) : c.length = b.length + tsz (dtok tb st).1 := by
 rcases dtok_two tb st with ⟨y, _, e⟩ | ⟨M, F, h1, h2, _, _, e⟩
 · rw [e, growT_byte] at h
   rw [e, tsz_byte, ← Option.some.inj h, List.length_append]; rfl
 · rw [e, growT_match M F b h1] at h
   split at h
   · cases h
   · rw [e, tsz_match M F h1, ← Option.some.inj h, copyN_len]
theorem unpack_toks (tb : Nat → Nat) (many : Nat) : ∀ k st b, unpackG tb many k st b = growL (dtoks tb many k st b.length) b
 | 0, _, _ => rfl
 | k + 1, st, b => by
   unfold unpackG dtoks
   by_cases hlt : b.length < many
   · rw [if_pos hlt, if_pos hlt]
     show _ = (growT (dtok tb st).1 b).bind (growL (dtoks tb many k (dtok tb st).2 (b.length + tsz (dtok tb st).1)))
     cases hg : growT (dtok tb st).1 b with
     | none =>
       show _ = none
       by_cases hd : dbit st.1 st.2 0 = true
       · rw [if_pos hd]
         unfold dtok at hg
         rw [if_pos hd] at hg
         rw [growT_match _ _ b (by omega)] at hg
         split at hg
         · rename_i h; rw [if_pos h]
         · cases hg
       · unfold dtok at hg
         rw [if_neg hd] at hg
         rw [growT_byte] at hg; cases hg
     | some c =>
       show _ = growL (dtoks tb many k (dtok tb st).2 (b.length + tsz (dtok tb st).1)) c
       rw [← growT_len tb st b c hg, ← unpack_toks tb many k (dtok tb st).2 c]
       by_cases hd : dbit st.1 st.2 0 = true
       · rw [if_pos hd]
         unfold dtok at hg ⊢
         rw [if_pos hd] at hg ⊢
         rw [growT_match _ _ b (by omega)] at hg
         split at hg
         · cases hg
         · rename_i h
           rw [if_neg h, Option.some.inj hg]
       · rw [if_neg hd]
         unfold dtok at hg ⊢
         rw [if_neg hd] at hg ⊢
         rw [growT_byte] at hg
         rw [Option.some.inj hg]
   · rw [if_neg hlt, if_neg hlt]; rfl
theorem dtok_ok (tb : Nat → Nat) (st : RC × Nat) (m : Nat) (h : DecOk st m) : DecOk (dtok tb st).2 (m + 17) := by
 have h1 := DecOk.next tb st 0 m h
 unfold dtok
 split
 · have h2 := readG_ok tb 300 6 (dnext tb st 0) 1 _ h1
   exact readG_ok tb 400 10 _ 1 _ h2
 · have h2 := readG_ok tb 16 8 (dnext tb st 0) 1 _ h1
   exact ⟨h2.ok, h2.x, Nat.le_trans h2.n (by omega)⟩
end Go.Proofs.YtconcnndghmdfaaGreatDoor
