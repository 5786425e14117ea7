/- Put together: SealPn, ImpApartS, ImpDifB, RngT. -/
import Derived.Test.YtconcnndghmdfaaGreatDoorSd38
namespace Go.Proofs.YtconcnndghmdfaaGreatDoor
open Go.RowKit Go
set_option maxRecDepth 100000 in
set_option maxHeartbeats 1600000 in
theorem imp_body_short (H M b : ByteArray) (w : World) (hs : b.size < 18) :
 Calls Tryz.prog 64 #[.agg #[.string H, .string M], .string b] w fun e w' => e = .panicked [{ v := faultP 4, recovered := false }] ∧ Below w.heap.size w w' := by
 have h' : ¬ 18 ≤ (b.size : Int) := by omega
 have d' : decide (18 ≤ (b.size : Int)) = false := decide_eq_false h'
 have q0 := hide ((Below.refl w.heap.size w).alloc (Nat.le_refl _) (.cells #[.string H, .string M] 24))
 have SD := hide (fun W => imp_demand_no 4 W)
 go_enter Tryz.func64, Tryz.ntmps64
 go_wp2_with fail
 refine (SD.out _).mono ?_
 rintro e w1 ⟨rfl, rfl⟩
 go_wp2_with fail
 exact ⟨rfl, rfl, q0.out⟩
set_option maxRecDepth 100000 in
set_option maxHeartbeats 3200000 in
theorem imp_body (H M b : ByteArray) (w : World) (htab : Tab w) (hM : M.size ≤ 20000) (hs : 18 ≤ b.size) (hb : b.size ≤ 20000) :
 Calls Tryz.prog 64 #[.agg #[.string H, .string M], .string b] w fun e w' => e = (if take16 (macT M (bodyX b)) = tailX b then .returned (.string (bodyX b)) else .panicked [{ v := faultP 10, recovered := false }]) ∧ Below w.heap.size w w' := by
 have h' : 18 ≤ (b.size : Int) := by omega
 have d' : decide (18 ≤ (b.size : Int)) = true := decide_eq_true h'
 obtain ⟨L, hL⟩ : ∃ L, b.size = L + 16 := ⟨b.size - 16, by omega⟩
 have hn : (b.size : Int) - 16 = (L : Int) := by omega
 have hbd : b.extract 0 L = bodyX b := by unfold bodyX; rw [show b.size - 16 = L by omega]
 have htl : b.extract L b.size = tailX b := by unfold tailX; rw [show b.size - 16 = L by omega]
 have hls : (bodyX b).size = L := by rw [bodyX_size]; omega
 have hsl1 : ∀ W : World, (Instr.slice 9 (.string b) none (some (.int .i64 (L : Int))) none).run Tryz.prog W = .ok (.string (bodyX b)) W := fun W => by rw [← hbd]; exact run_front (P := Tryz.prog) W 9 b L Tryz.underlying9 (by omega)
 have hsl2 : ∀ W : World, (Instr.slice 9 (.string b) (some (.int .i64 (L : Int))) none none).run Tryz.prog W = .ok (.string (tailX b)) W := fun W => by rw [← htl]; exact run_back (P := Tryz.prog) W 9 b L Tryz.underlying9 (by omega)
 have SM := hide (fun W (h : Tab W) => imp_macOf H M (bodyX b) W hM (by omega) h)
 have SD := hide (fun W => imp_demand_yes 4 W)
 have SE := hide (fun W => imp_demand_yes 10 W)
 have SN := hide (fun W => imp_demand_no 10 W)
 have HT := hide htab
 have HB0 : KeyW w H M (w.alloc (.cells #[.string H, .string M] 24)) := ⟨Below.refl _ _⟩
 have HB := hide HB0
 have c0 := HB0.c0
 have c1 := HB0.c1
 generalize take16 (macT M (bodyX b)) = X at *
 generalize bodyX b = BD at *
 generalize tailX b = TL at *
 clear hbd htl hls htab HB0 hL
 by_cases hX : X = TL
 · rw [if_pos hX]
   subst hX
   go_enter Tryz.func64, Tryz.ntmps64
   go_wp2_with fail
   refine (SD.out _).mono ?_
   rintro e w1 ⟨rfl, rfl⟩
   go_wp2_with fail
   go_quiet (fail)
   go_wp2_with fail
   refine (SM.out _ (HT.out.low (below_drewN HB.out.low nq))).mono ?_
   rintro e w2 ⟨rfl, hb2⟩
   have HB2 := hide (show KeyW w H M w2 from ⟨(below_drewN HB.out.b nq).trans (hb2.mono HB.out.size)⟩)
   clear hb2
   go_wp2_with fail
   refine (SE.out _).mono ?_
   rintro e w3 ⟨rfl, rfl⟩
   go_wp2_with fail
   go_ret
   exact ⟨rfl, HB2.out.low⟩
 · rw [if_neg hX]
   have hq2 : (X.toList == TL.toList) = false := by rw [list_beq, decide_eq_false hX]
   go_enter Tryz.func64, Tryz.ntmps64
   go_wp2_with fail
   refine (SD.out _).mono ?_
   rintro e w1 ⟨rfl, rfl⟩
   go_wp2_with fail
   go_quiet (fail)
   go_wp2_with fail
   refine (SM.out _ (HT.out.low (below_drewN HB.out.low nq))).mono ?_
   rintro e w2 ⟨rfl, hb2⟩
   have HB2 := hide (show KeyW w H M w2 from ⟨(below_drewN HB.out.b nq).trans (hb2.mono HB.out.size)⟩)
   clear hb2
   go_wp2_with fail
   refine (SN.out _).mono ?_
   rintro e w3 ⟨rfl, rfl⟩
   go_wp2_with fail
   exact ⟨rfl, rfl, HB2.out.low⟩
theorem numRet_at (t : ByteArray) (q : Nat) : (∃ n a : Int, numRet q (decAt t q) = .tuple #[.int .i64 n, .int .i64 a, .nilIface] ∧ (decAt t q).1 = 0 ∧ n = unfold (decAt t q).2.1 ∧ a = ((q + (decAt t q).2.2 : Nat) : Int)) ∨ (∃ c : Int, numRet q (decAt t q) = .tuple #[.int .i64 0, .int .i64 0, faultP c] ∧ ¬ (decAt t q).1 = 0) := by
 rcases decAt_form t q with ⟨U, m, h, hm⟩ | h | h <;> rw [h]
 · refine .inl ⟨unfold U, (q : Int) + m, by rw [numRet_good], rfl, rfl, ?_⟩
   show (q : Int) + (m : Int) = ((q + m : Nat) : Int); omega
 · exact .inr ⟨3, by rw [numRet_bad q 3 (by omega)]; rfl, by simp⟩
 · exact .inr ⟨4, by rw [numRet_bad q 4 (by omega)]; rfl, by simp⟩
set_option maxRecDepth 100000 in
set_option maxHeartbeats 3200000 in
theorem imp_hiddenOf (t : ByteArray) (id : Int) (w : World) (h0 : 0 ≤ id) (h1 : id ≤ 2000000) (ht : t.size ≤ 20000) :
 Calls Tryz.prog 63 #[.string t, .int .i64 id] w fun e w' => e = (if headOk t id then .returned (.tuple #[.int .i64 (farX t), .string (restX t)]) else .panicked [{ v := faultP 5, recovered := false }]) ∧ Below w.heap.size w w' := by
 have SN := hide (show ∀ W : World, Calls Tryz.prog 28 #[.int .i64 id] W fun e w' => e = .returned (.string (numB id)) ∧ Below W.heap.size W w' from fun W => impl_putNum id W (by omega) (by omega))
 have SP := hide (fun W => imp_cutPre t (numB id) W)
 have SD := hide (fun W => imp_demand_yes 5 W)
 have SE := hide (fun W => imp_demand_no 5 W)
 by_cases hf : inFront t (numB id)
 · obtain ⟨k1, k2, k3, k4, k5⟩ := front_yes t id h0 h1 hf
   rw [decide_eq_true hf] at SP
   have hcs : (cutT t (numB id)).size ≤ 20000 := by rw [k5, ByteArray.size_extract]; omega
   have SR0 : ∀ W : World, Calls Tryz.prog 99 #[.string (cutT t (numB id)), .int .i64 0] W fun e w' => e = .returned (numRet 0 (decAt (cutT t (numB id)) 0)) ∧ W = w' := fun W => impl_readNum (cutT t (numB id)) 0 W hcs (by decide)
   rcases numRet_at (cutT t (numB id)) 0 with ⟨n, a, e1, e2, e3, e4⟩ | ⟨c, e1, e2⟩
   · rw [e1] at SR0
     rw [k4] at e2 e3 e4
     have hm : fromX t = (numB id).size + (num2 t).2.2 := by unfold fromX; rw [k3]
     have hle := fromX_le t
     have hN : (numB id).size ≤ t.size := hf.1
     have hrx : (cutT t (numB id)).extract (num2 t).2.2 (cutT t (numB id)).size = restX t := by
      rw [k5, rest_cut, ← hm]; rfl
     have hsl : ∀ W : World, (Instr.slice 9 (.string (cutT t (numB id))) (some (.int .i64 a)) none none).run Tryz.prog W = .ok (.string (restX t)) W := fun W => by
      rw [e4, Nat.zero_add, ← hrx]; exact run_back (P := Tryz.prog) W 9 _ _ Tryz.underlying9 (by rw [k5, ByteArray.size_extract]; omega)
     have hfar : farX t = n := e3.symm
     have hok : headOk t id ↔ (0 ≤ n ∧ n ≤ 256) := by
      unfold headOk
      rw [← e3]
      exact ⟨fun h => ⟨h.2.2.2.1, h.2.2.2.2⟩, fun h => ⟨k1, e2, k2, h.1, h.2⟩⟩
     have SR := hide SR0
     clear SR0 e1 e2 e3 e4 hm hle hN hrx hcs k1 k2 k3 k4 k5 hf
     rw [hfar]
     generalize restX t = RX at *
     generalize cutT t (numB id) = CT at *
     by_cases hr : 0 ≤ n ∧ n ≤ 256
     · rw [if_pos (hok.2 hr)]
       have SF := hide (fun W => by have h := imp_farRight n W; rw [show farOk10 n = true by unfold farOk10; simp; exact hr] at h; exact h)
       clear hok hr hfar
       go_enter Tryz.func63, Tryz.ntmps63
       go_wp2_with fail
       refine (SN.out _).mono ?_
       rintro e w1 ⟨rfl, hb1⟩
       go_wp2_with fail
       refine (SP.out _).mono ?_
       rintro e w2 ⟨rfl, rfl⟩
       go_wp2_with fail
       refine (SD.out _).mono ?_
       rintro e w3 ⟨rfl, rfl⟩
       go_wp2_with fail
       refine (SR.out _).mono ?_
       rintro e w4 ⟨rfl, rfl⟩
       go_wp2_with fail
       refine (SF.out _).mono ?_
       rintro e w5 ⟨rfl, hb5⟩
       have HB := hide (hb1.trans (hb5.mono hb1.size))
       clear hb1 hb5
       go_wp2_with fail
       refine (SD.out _).mono ?_
       rintro e w6 ⟨rfl, rfl⟩
       go_wp2_with fail
       go_quiet (fail)
       go_wp2_with fail
       go_ret2
       exact ⟨rfl, below_drewN HB.out _⟩
     · rw [if_neg (fun h => hr (hok.1 h))]
       have SF := hide (fun W => by have h := imp_farRight n W; rw [show farOk10 n = false from Bool.eq_false_iff.2 (fun h => hr (by unfold farOk10 at h; simpa using h))] at h; exact h)
       clear hok hr hfar
       go_enter Tryz.func63, Tryz.ntmps63
       go_wp2_with fail
       refine (SN.out _).mono ?_
       rintro e w1 ⟨rfl, hb1⟩
       go_wp2_with fail
       refine (SP.out _).mono ?_
       rintro e w2 ⟨rfl, rfl⟩
       go_wp2_with fail
       refine (SD.out _).mono ?_
       rintro e w3 ⟨rfl, rfl⟩
       go_wp2_with fail
       refine (SR.out _).mono ?_
       rintro e w4 ⟨rfl, rfl⟩
       go_wp2_with fail
       refine (SF.out _).mono ?_
       rintro e w5 ⟨rfl, hb5⟩
       have HB := hide (hb1.trans (hb5.mono hb1.size))
       clear hb1 hb5
       go_wp2_with fail
       refine (SE.out _).mono ?_
       rintro e w6 ⟨rfl, rfl⟩
       go_wp2_with fail
       exact ⟨rfl, rfl, HB.out⟩
   · rw [e1] at SR0
     rw [k4] at e2
     rw [if_neg (fun h => e2 h.2.1)]
     have SR := hide SR0
     clear SR0 e1 e2 k1 k2 k3 k4 k5 hf hcs
     unfold faultP at SR
     generalize cutT t (numB id) = CT at *
     go_enter Tryz.func63, Tryz.ntmps63
     go_wp2_with fail
     refine (SN.out _).mono ?_
     rintro e w1 ⟨rfl, hb1⟩
     go_wp2_with fail
     refine (SP.out _).mono ?_
     rintro e w2 ⟨rfl, rfl⟩
     go_wp2_with fail
     refine (SD.out _).mono ?_
     rintro e w3 ⟨rfl, rfl⟩
     go_wp2_with fail
     refine (SR.out _).mono ?_
     rintro e w4 ⟨rfl, rfl⟩
     go_wp2_with fail
     refine (SE.out _).mono ?_
     rintro e w6 ⟨rfl, rfl⟩
     go_wp2_with fail
     exact ⟨rfl, rfl, hb1⟩
 · rw [if_neg (front_no t id h0 h1 hf)]
   rw [decide_eq_false hf] at SP
   clear hf
   generalize cutT t (numB id) = CT at *
   go_enter Tryz.func63, Tryz.ntmps63
   go_wp2_with fail
   refine (SN.out _).mono ?_
   rintro e w1 ⟨rfl, hb1⟩
   go_wp2_with fail
   refine (SP.out _).mono ?_
   rintro e w2 ⟨rfl, rfl⟩
   go_wp2_with fail
   refine (SE.out _).mono ?_
   rintro e w3 ⟨rfl, rfl⟩
   go_wp2_with fail
   exact ⟨rfl, rfl, hb1⟩
set_option maxRecDepth 100000 in
set_option maxHeartbeats 1600000 in
theorem apart_S (M1 M2 : UInt8 → UInt8 → UInt8) (hM : ∀ (a b : UInt8) (w : World), Calls Tryz.prog 102 #[.int .u8 (a.toNat : Int), .int .u8 (b.toNat : Int)] w fun e w' => e = .returned (.tuple #[.int .u8 ((M1 a b).toNat : Int), .int .u8 ((M2 a b).toNat : Int)]) ∧ w' = w)
 (text : ByteArray) (far : Nat) (w : World) (b : Nat) (hcell : w.cell? ⟨b, 0, none⟩ = some (.string text)) (hbw : b < w.heap.size) (ht : text.size ≤ 20000) (hf1 : 1 ≤ far) (hf2 : far ≤ 256) :
 Calls Tryz.prog 46 #[.int .i64 (far : Int), .func (.func 102) #[] #[], .slice (some ⟨b, 0, none⟩) 1 1] w fun e w' => e = .returned (.string ⟨((List.range text.size).map (fun j => M1 (bF text j) (metF M2 (bF text) far j))).toArray⟩) ∧ Below w.heap.size w w' := by
 have hmk : ∀ w : World, (Instr.makeSlice 22 (.int .i64 text.size) (.int .i64 text.size)).run Tryz.prog w = .ok (.slice (some ⟨w.heap.size, 0, none⟩) text.size text.size) (w.alloc (.cells (madeCells #[.int .u8 0] text.size) 5)) := run_make_row' (P := Tryz.prog) 22 5 (.int .u8 0) 1 (by kernel_rfl) Tryz.infoA8 rfl .i64 .i64 text.size (by omega) (by omega)
 obtain ⟨hz, hsz⟩ := zero_of_info Tryz.infoRing
 have hso := hide (fun w h1 h2 h3 => sizeOf_any b [text] w h1 h2 h3)
 have e1 : (catB [text]).length = text.size := by simp [catB]
 have f1 : ¬ (far : Int) < 1 := by omega
 have f2 : ¬ (256 : Int) < (far : Int) := by omega
 have t1 : ¬ (20000 : Int) < (text.size : Int) := by omega
 obtain ⟨T, hT⟩ : ∃ T, T = bF text := ⟨_, rfl⟩
 have HT := hide (show ∀ k (hk : k < text.size), text[k] = T k from fun k hk => (bF_get' text k hk).trans (by rw [hT]))
 rw [← hT]
 clear hT
 go_enter Tryz.func46, Tryz.ntmps46
 go_wp2_with fail
 refine (hso.out _ (fun j hj => by match j, hj with | 0, _ => exact hcell) (by simp) (by rw [e1]; omega)).mono ?_
 rw [e1]
 rintro e w1 ⟨rfl, rfl⟩
 have r0 := row_alloc w1 94 256 (fun _ => 0)
 have r1 := World.rowIs_made (w1.alloc (.cells (bL 256 fun _ => 0).toArray 94)) (.int .u8 0) text.size 5
 have rb := ((Below.refl w1.heap.size w1).alloc (Nat.le_refl _) (.cells (bL 256 fun _ => 0).toArray 94)).alloc (by simp) (.cells (madeCells #[.int .u8 0] text.size) 5)
 have r0' := r0.alloc (.cells (madeCells #[.int .u8 0] text.size) 5)
 rw [World.size_alloc] at r1
 go_wp2_with fail
 clear hmk hz hso e1 f1 f2 t1 r0
 generalize (w1.alloc (.cells (bL 256 fun _ => 0).toArray 94)).alloc (.cells (madeCells #[.int .u8 0] text.size) 5) = W1 at *
 go_loopw [10, 31] (fun a i wx => ∃ (k n : Nat) (f r : Nat → UInt8), k ≤ 1 ∧ Hid (n = k * text.size) ∧ i = .int .i64 k ∧ a = .int .i64 n ∧ Hid (∀ j, j < n → f j = M1 (T j) (metF M2 T far j)) ∧ Hid (ringOk M2 T far n r) ∧ wx.rowIs w1.heap.size 94 256 (u8V r) ∧ wx.rowIs (w1.heap.size + 1) 5 text.size (u8V f) ∧ Below w1.heap.size w1 wx) (fun _ i _ => 1 - (intOf i).toNat)
 case atStart => exact ⟨0, 0, fun _ => 0, fun _ => 0, by omega, (Nat.zero_mul _).symm, rfl, rfl, fun j hj => by omega, ⟨fun j hj => by omega, fun _ _ _ => rfl⟩, r0', r1, rb⟩
 case round =>
  clear r0' r1 rb
  obtain ⟨k, n, f, r, hk, hn, rfl, rfl, hf, hr, r0, r1, rb⟩ := hrel
  by_cases hlt : k = 0
  · obtain rfl : n = 0 := by have := hn.out; rw [hlt] at this; omega
    have hcw : wr.cell? ⟨b, k, none⟩ = some (.string text) := by rw [hlt]; exact (rb.cell (p := ⟨b, 0, none⟩) hbw).trans hcell
    have hk1 : k < 1 := by omega
    have hk2 : (k : Int) < 1 := by omega
    have HK := hide hlt
    clear hn hlt
    go_wp2_with fail
    go_loopw [10, 37] (fun a i wx => ∃ (n : Nat) (f r : Nat → UInt8), n ≤ text.size ∧ i = .int .i64 n ∧ a = .int .i64 n ∧ Hid (∀ j, j < n → f j = M1 (T j) (metF M2 T far j)) ∧ Hid (ringOk M2 T far n r) ∧ wx.rowIs w1.heap.size 94 256 (u8V r) ∧ wx.rowIs (w1.heap.size + 1) 5 text.size (u8V f) ∧ Below w1.heap.size w1 wx) (fun _ i _ => text.size - (intOf i).toNat)
    case atStart => exact ⟨0, f, r, by omega, rfl, rfl, hf, hr, r0, r1, rb⟩
    case round =>
     clear r0 r1 rb hf hr f r
     obtain ⟨n, f, r, hn, rfl, rfl, hf, hr, r0, r1, rb⟩ := hrel
     by_cases hlt : n < text.size
     · have hlt' : (n : Int) < (text.size : Int) := by omega
       obtain ⟨q, hq⟩ : ∃ q, q = n % far := ⟨_, rfl⟩
       have hq1 : q < far := by rw [hq]; exact Nat.mod_lt _ (by omega)
       have hq2 : (n : Int) % (far : Int) = (q : Int) := by rw [hq]; rfl
       have hq3 : (q : Int) < 256 := by omega
       have hf0 : ¬ (far : Int) = 0 := by omega
       have cq : wr.cell? ⟨w1.heap.size, q, none⟩ = some (.int .u8 ((r q).toNat : Int)) := r0.cell (i := q) (by omega)
       have HB := hide (HT.out n hlt)
       have HR := hide (show r q = metF M2 T far n by rw [hq]; exact ring_at hr.out (by omega))
       have HQ := hide hq
       have cB := hM text[n] (r q)
       obtain ⟨R, hR⟩ : ∃ R, R = r q := ⟨_, rfl⟩
       obtain ⟨Y, hY⟩ : ∃ Y, Y = M1 text[n] R := ⟨_, rfl⟩
       obtain ⟨Z, hZ⟩ : ∃ Z, Z = M2 text[n] R := ⟨_, rfl⟩
       rw [← hR] at cq HR cB
       rw [← hY, ← hZ] at cB
       have HY := hide (show Y = M1 (T n) (metF M2 T far n) by rw [hY, HB.out, HR.out])
       have HZ := hide (show Z = keptF M2 T far n by rw [hZ, HB.out, HR.out, keptF_eq])
       have CB := hide cB
       clear hq hR hY hZ cB HR HB
       have fq := r0.frozen q
       have cn := r1.cell (i := n) hlt
       have fn := r1.frozen n
       go_wp2_with fail
       go_region_with (go_at_call 102; refine (CB.out _).mono ?_; rintro e w2 ⟨rfl, rfl⟩)
       all_goals
        clear cq fq cn fn hq2 hf0 hcell hcw CB hM
        go_wp2_with fail
        go_roundw
        case rel =>
         refine ⟨n + 1, fun j => if j = n then Y else f j, fun j => if j = q then Z else r j, by omega, by go_num, by go_num, fun j hj => ?_, by have h := ring_next hr.out HZ.out; rw [← HQ.out] at h; exact h, ?_, ?_, ?_⟩
         · show (if j = n then Y else f j) = _
           by_cases e : j = n
           · rw [if_pos e, e, HY.out]
           · rw [if_neg e]; exact hf.out j (by omega)
         · first
            | exact (set_byte (r0.setOther (by simp) _) rfl).drew
            | exact ((set_byte r0 rfl).setOther (by simp) _).drew
         · first
            | exact ((set_byte r1 rfl).setOther (by simp) _).drew
            | exact (set_byte (r1.setOther (by simp) _) rfl).drew
         · first
            | exact ((rb.setCell (by simp) _).setCell (by simp) _).drew
        case measure => simp [intOf]; omega
     · have hn1 : n = text.size := by omega
       subst hn1
       have hlt' : ¬ (text.size : Int) < (text.size : Int) := by omega
       clear hcw
       go_wp2_with fail
       go_roundw
       case rel => exact ⟨k + 1, text.size, f, r, by omega, by rw [HK.out]; exact (Nat.one_mul _).symm, by go_num, rfl, hf, hr, r0, r1, rb⟩
       case measure => simp [intOf]; omega
  · obtain rfl : k = 1 := by omega
    have hn1 : n = text.size := by have := hn.out; omega
    subst hn1
    have hcv := conv_row (P := Tryz.prog) (cap := text.size) (l := (List.range text.size).map (fun j => M1 (T j) (metF M2 T far j))) r1 (fun j hj => by rw [List.getElem?_map, List.getElem?_range hj, hf.out j hj]; rfl) (by simp) Tryz.underlying22 Tryz.underlying5 Tryz.underlying9
    clear hn hf
    go_wp2_with fail
    go_ret
    exact ⟨rfl, rb⟩
set_option maxRecDepth 100000 in
theorem sum_meet (a b : UInt8) (w : World) : Calls Tryz.prog 102 #[.int .u8 (a.toNat : Int), .int .u8 (b.toNat : Int)] w fun e w' => e = .returned (.tuple #[.int .u8 ((a + b).toNat : Int), .int .u8 ((a + b).toNat : Int)]) ∧ w' = w := by
 have h := add8 a b
 obtain ⟨X, hX⟩ : ∃ X, X = a + b := ⟨_, rfl⟩
 rw [← hX] at h ⊢
 clear hX
 go_enter Tryz.func102, Tryz.ntmps102
 go_wp2_with fail
 go_ret2
 exact ⟨rfl, rfl⟩
theorem apart_sum (text : ByteArray) (far : Int) (w : World) (ht : text.size ≤ 9223372036854775807) :
 Calls Tryz.prog 46 #[.int .i64 far, .func (.func 102) #[] #[], .slice (some ⟨w.heap.size, 0, none⟩) 1 1] (w.alloc (.cells #[.string text] 9)) fun e w' => e = .returned (.string (sumS text far)) ∧ Below w.heap.size w w' := by
 have hb0 := (Below.refl w.heap.size w).alloc (Nat.le_refl _) (.cells #[.string text] 9)
 by_cases h : farOk text far
 · have hE : sumS text far = ⟨((List.range text.size).map (sumF (bF text) far.toNat)).toArray⟩ := if_pos h
   rw [hE]
   obtain ⟨h1, h2, h3⟩ := h
   obtain ⟨n, rfl⟩ := Int.eq_ofNat_of_zero_le (show 0 ≤ far by omega)
   refine (apart_S (fun a b => a + b) (fun a b => a + b) sum_meet text n _ w.heap.size (text_cell w text _) (by simp) h1 (by omega) (by omega)).mono ?_
   rintro e w' ⟨rfl, hb⟩
   refine ⟨?_, hb0.trans (hb.mono (by simp))⟩
   congr 5
   funext j; exact (keptF_eq (fun a b => a + b) (bF text) n j).symm.trans (sum_kept (bF text) n (by omega) j)
 · have hE : sumS text far = ⟨#[]⟩ := if_neg h
   rw [hE]
   refine (apart_no _ text far _ w.heap.size (text_cell w text _) ht h).mono ?_
   rintro e w' ⟨rfl, hb⟩
   exact ⟨rfl, hb0.trans (hb.mono (by simp))⟩
set_option maxRecDepth 100000 in
theorem imp_sum (text : ByteArray) (far : Int) (w : World) (ht : text.size ≤ 9223372036854775807) :
 Calls Tryz.prog 66 #[.string text, .int .i64 far] w fun e w' => e = .returned (.string (sumS text far)) ∧ Below w.heap.size w w' := by
 have S := hide (fun w => apart_sum text far w ht)
 generalize sumS text far = R at *
 go_enter Tryz.func66, Tryz.ntmps66
 go_wp2_with fail
 refine (S.out w).mono ?_
 rintro e w1 ⟨rfl, hb1⟩
 go_wp2_with fail
 go_ret
 exact ⟨rfl, hb1⟩
end Go.Proofs.YtconcnndghmdfaaGreatDoor
namespace Go.Proofs.YtconcnndghmdfaaGreatDoor
open Go.RowKit
def restOf (t : ByteArray) (k : Nat) : ByteArray := t.extract k t.size
theorem rest_size (t : ByteArray) (k : Nat) : (restOf t k).size = t.size - k := by unfold restOf; rw [ByteArray.size_extract]; omega
theorem rest_at (t : ByteArray) (k : Nat) (h : k < t.size) : ((restOf t k)[0]'(by rw [rest_size]; omega)).toNat = tbN t k := by
 have h1 : (restOf t k)[0]'(by rw [rest_size]; omega) = t[k] := by
  unfold restOf
  rw [ByteArray.getElem_extract]
  congr 1
 rw [h1]; exact tbN_in t k h
theorem rest_next (t : ByteArray) (k : Nat) : (restOf t k).extract 1 (restOf t k).size = restOf t (k + 1) := by
 rw [rest_size]
 unfold restOf
 rw [ByteArray.extract_extract]
 congr 1; omega
theorem rest_end (t : ByteArray) (k : Nat) (h : t.size ≤ k) : restOf t k = restOf t (k + 1) := by
 have e : ∀ j, t.size ≤ j → restOf t j = ByteArray.empty := fun j hj => ByteArray.size_eq_zero_iff.1 (by rw [rest_size]; omega)
 rw [e k h, e (k + 1) (by omega)]
set_option maxRecDepth 100000 in
set_option maxHeartbeats 800000 in
theorem imp_take (g size x k : Nat) (ch : Nat → Nat) (t : ByteArray) (w : World) (hts : t.size ≤ 9223372036854775807) (hr : w.rowIs g 199 1603 (cdF size ch x (.string (restOf t k)))) :
 Calls Tryz.prog 145 #[.pointer (some ⟨g, 0, none⟩)] w fun e w' => e = .returned (.tuple #[]) ∧ w'.rowIs g 199 1603 (cdF size ch ((256 * x + tbN t k) % 18446744073709551616) (.string (restOf t (k + 1)))) ∧ w.grownBy w' (some g) := by
 obtain ⟨_, c1, c2, _⟩ := cd_cells hr
 have f1 := hr.frozen 1601
 have f2 := hr.frozen 1602
 obtain ⟨X, hX⟩ : ∃ X, X = x * 256 % 18446744073709551616 := ⟨_, rfl⟩
 have kX : (x : Int) * 256 % 18446744073709551616 = (X : Int) := by omega
 have kX2 : IntKind.u64.wrap ((x : Int) * 256) = (X : Int) := by rw [IntKind.wrap_u64]; omega
 have R1 := (cd_set hr).2.1 X
 obtain ⟨_, d1, d2, _⟩ := cd_cells R1
 have e1 := R1.frozen 1601
 have e2 := R1.frozen 1602
 have G1 := grownBy_set (i := 1601) (grown0 w (some g)) (.int .u64 (X : Int))
 have hsz := rest_size t k
 by_cases hlt : k < t.size
 · have hb := rest_at t k hlt
   have hn := rest_next t k
   have htb8 := tbN_lt t k
   obtain ⟨R, hR⟩ : ∃ R, R = restOf t k := ⟨_, rfl⟩
   have hRs : 0 < R.size := by rw [hR, hsz]; omega
   have hRs' : (0 : Int) < (R.size : Int) := by omega
   have hRs2 : (1 : Int) ≤ (R.size : Int) := by omega
   have hR63 : R.size ≤ 9223372036854775807 := by rw [hR, hsz]; omega
   obtain ⟨b, hbe⟩ : ∃ b, b = tbN t k := ⟨_, rfl⟩
   have hb0 : (R[0]).toNat = b := by rw [hbe, ← hb]; simp only [hR]
   obtain ⟨N, hN⟩ : ∃ N, N = restOf t (k + 1) := ⟨_, rfl⟩
   rw [← hR, ← hN] at hn
   rw [← hR] at hr c2 R1 d2
   obtain ⟨Y, hY⟩ : ∃ Y, Y = (256 * x + b) % 18446744073709551616 := ⟨_, rfl⟩
   have kY : IntKind.u64.wrap ((X : Int) + (b : Int)) = (Y : Int) := by rw [IntKind.wrap_u64]; omega
   have kb : IntKind.u64.wrap (b : Int) = (b : Int) := by rw [IntKind.wrap_u64]; omega
   have HE := hide (show Y = (256 * x + tbN t k) % 18446744073709551616 ∧ N = restOf t (k + 1) from ⟨by rw [hY, hbe], hN⟩)
   have H := hide (And.intro R1 G1)
   clear hb hX hY hN hbe hR hsz hr R1 G1
   go_enter Tryz.func145, Tryz.ntmps145
   go_wp2_with fail
   generalize w.setCell ⟨g, 1601, none⟩ (.int .u64 (X : Int)) = W1 at *
   clear c1 c2 f1 f2
   obtain ⟨R1, G1⟩ := H.out
   have R2 := ((cd_set R1).2.1 Y).drew
   have G2 := grownBy_drew (grownBy_set (i := 1601) G1 (.int .u64 (Y : Int)))
   have H2 := hide (And.intro R2 G2)
   clear R1 G1 H R2 G2
   go_region
   obtain ⟨R2, G2⟩ := H2.out
   clear d1 d2 e1 e2 H2 kX kX2 kY kb
   generalize (W1.setCell ⟨g, 1601, none⟩ (.int .u64 (Y : Int))).drew = W2 at *
   obtain ⟨_, d1, d2, _⟩ := cd_cells R2
   have e2 := R2.frozen 1602
   have R3 := (cd_set R2).2.2.1 (.string N)
   have G3 := grownBy_set (i := 1602) G2 (.string N)
   have H3 := hide (And.intro R3 G3)
   clear R2 G2 R3 G3
   go_wp2_with fail
   go_end0
   exact ⟨rfl, by rw [← HE.out.1, ← HE.out.2]; exact H3.out.1, H3.out.2⟩
 · have HE := hide (show X = (256 * x + tbN t k) % 18446744073709551616 ∧ restOf t k = restOf t (k + 1) from ⟨by rw [tbN_far t k (by omega), hX]; omega, rest_end t k (by omega)⟩)
   obtain ⟨R, hR⟩ : ∃ R, R = restOf t k := ⟨_, rfl⟩
   have hRs : R.size = 0 := by rw [hR, hsz]; omega
   have hRs' : ¬ (0 : Int) < (R.size : Int) := by omega
   have H := hide (And.intro R1 G1)
   rw [← hR] at c2 d2 H HE
   clear hX hsz hr R1 G1 hR
   go_enter Tryz.func145, Tryz.ntmps145
   go_wp2_with fail
   go_end0
   exact ⟨rfl, by rw [← HE.out.1, ← HE.out.2]; exact H.out.1, H.out.2⟩
def DecP (w : World) (g : Nat) (t : ByteArray) (s : RC) (x : Nat) : Prop := w.rowIs g 199 1603 (cdF s.size s.ch x (.string (restOf t (s.n + 4))))
set_option maxRecDepth 100000 in
set_option maxHeartbeats 800000 in
theorem imp_newDecoder (t : ByteArray) (w : World) (hts : t.size ≤ 9223372036854775807) :
 Calls Tryz.prog 131 #[.string t] w fun e w' => ∃ g, e = .returned (.pointer (some ⟨g, 0, none⟩)) ∧ w.heap.size ≤ g ∧ DecP w' g t rc0 (pv (tbN t) 4) ∧ Below w.heap.size w w' := by
 go_enter Tryz.func131, Tryz.ntmps131
 go_wp2_with fail
 refine (imp_parting w).mono ?_
 rintro e w2 ⟨rfl, hb2⟩
 have HBT := hide (Tryz.builtDec 4294967295 (fun _ => 1024) t)
 go_wp2_with (first | (with_reducible (show wpList _ _ _ ({ dst := _, op := .build _ _, type := _, pos := _, after := _, guard := _ } :: _) _ _); refine wpList_build_2 rfl 199 0 _ 2 _ rfl (.agg (vL 1601 (parF 4294967295 fun _ => 1024)).toArray) rfl (.string t) rfl _ HBT.out ?_))
 have R3 := vrow_alloc w2 199 1603 (cdF 4294967295 (fun _ => 1024) 0 (.string t))
 have B3 := hide (hb2.alloc hb2.size (.cells (vL 1603 (cdF 4294967295 (fun _ => 1024) 0 (.string t))).toArray 199))
 have hg2 := hb2.size
 generalize w2.alloc (.cells (vL 1603 (cdF 4294967295 (fun _ => 1024) 0 (.string t))).toArray 199) = W3 at *
 generalize w2.heap.size = g at *
 have hrest : restOf t 0 = t := by unfold restOf; exact ByteArray.extract_zero_size
 have R0 := hide (show W3.rowIs g 199 1603 (cdF 4294967295 (fun _ => 1024) 0 (.string (restOf t 0))) by rw [hrest]; exact R3)
 clear hrest R3 hb2 HBT
 go_loopw [8] (fun i wx => ∃ k : Nat, k ≤ 4 ∧ i = .int .i64 k ∧ Hid (wx.rowIs g 199 1603 (cdF 4294967295 (fun _ => 1024) (pv (tbN t) k) (.string (restOf t k)))) ∧ Hid (Below w.heap.size w wx)) (fun i _ => 4 - (intOf i).toNat)
 case atStart => exact ⟨0, by omega, rfl, R0, B3⟩
 case round =>
  clear R0 B3
  obtain ⟨k, hk, rfl, hr, hb⟩ := hrel
  by_cases hk4 : k < 4
  · have hk4' : (k : Int) < 4 := by omega
    have hp := pv_lt (tbN t) (tbN_lt t) k
    have hp2 : 256 ^ k ≤ 256 ^ 3 := Nat.pow_le_pow_right (by omega) (by omega)
    have hp3 : pv (tbN t) k < 16777216 := Nat.lt_of_lt_of_le hp hp2
    have ht8 := tbN_lt t k
    have SN := hide (imp_take g 4294967295 (pv (tbN t) k) k (fun _ => 1024) t wr hts hr.out)
    rw [Nat.mod_eq_of_lt (by omega)] at SN
    have hgl := hr.out.lt
    clear hr
    go_wp2_with fail
    refine SN.out.mono ?_
    rintro e w2 ⟨rfl, hr2, hg2'⟩
    have hb2 := hide (hb.out.trans (grownBy_below hg2' hg2 hb.out.size))
    have hr3 := hide hr2
    clear hr2 hg2' hb SN
    go_wp2_with fail
    go_roundw
    case rel => exact ⟨k + 1, by omega, by go_num, hr3, hb2⟩
    case measure => simp [intOf]; omega
  · have hk4' : ¬ (k : Int) < 4 := by omega
    have hfin := hide (show DecP wr g t rc0 (pv (tbN t) 4) by have h := hr.out; rw [show k = 4 by omega] at h; exact h)
    clear hr
    go_wp2_with fail
    go_ret
    exact ⟨g, rfl, hg2, hfin.out, hb.out⟩
end Go.Proofs.YtconcnndghmdfaaGreatDoor
