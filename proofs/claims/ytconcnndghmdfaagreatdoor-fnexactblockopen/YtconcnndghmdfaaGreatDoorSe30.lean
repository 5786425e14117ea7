/- Put together: ImpWords, ImpCip, ImpCip2. -/
import Derived.Test.YtconcnndghmdfaaGreatDoorSe29
import Derived.Test.YtconcnndghmdfaaGreatDoorSe4
namespace Go.Proofs.YtconcnndghmdfaaGreatDoor
open Go.RowKit
attribute [local irreducible] times sbox dbl dU
theorem cell_off {wr : World} {o q k : Nat} {v x : Value} (d : k ≠ q) (c : wr.cell? ⟨o, q, none⟩ = some x) : (wr.setCell ⟨o, k, none⟩ v).cell? ⟨o, q, none⟩ = some x :=
  (World.cell?_setCell_other wr ⟨o, k, none⟩ ⟨o, q, none⟩ v (by intro e; injection e with _ e2; exact d e2)).trans c
theorem run_stB {P : Program} {w : World} {g n : Nat} {k : Nat → UInt8} (h : w.there g 0 n) : (storeCells ⟨g, 0, none⟩ (bL n k)).run P w = .ok () (w.setCells g 0 (bL n k)) :=
  run_storeCells_cells (P := P) g 0 (bL n k) 0 w (fun j hj => by rw [Nat.add_zero]; exact (h j (by rwa [bL_len] at hj)).1) (fun j hj => by rw [Nat.add_zero]; exact (h j (by rwa [bL_len] at hj)).2) (bL_one _ _)
theorem Tryz.infoWords : (Tryz.prog.info? 103).map (fun i => (i.zero, i.size)) = some (some (.agg (bL 176 fun _ => 0).toArray), 176) := by kernel_rfl
set_option maxRecDepth 100000 in
set_option maxHeartbeats 1600000 in
theorem imp_words (g : Nat) (key : ByteArray) (w : World) (hk16 : key.size = 16) (hg : g < w.heap.size) (ht : ∀ j, j < 256 → w.cell? ⟨g, j, none⟩ = some (.int .u8 ((sbox j).toNat : Int))) :
    Calls Tryz.prog 75 #[.pointer (some ⟨g, 0, none⟩), .string key] w fun e w' => e = .returned (.agg (bL 176 (kB (bF key))).toArray) ∧ Below w.heap.size w w' := by
  have HT := hide ht
  clear ht
  obtain ⟨hz, hsz⟩ := zero_of_info Tryz.infoWords
  go_enter Tryz.func75, Tryz.ntmps75
  go_wp2_with fail
  clear hz
  go_loopw [11] (fun i wx => ∃ (m : Nat) (h : Nat → UInt8), m ≤ 4 ∧ i = .int .i64 m ∧ Hid (∀ j, j < 4 * m → h j = bF key j) ∧ wx.rowIs w.heap.size 103 176 (u8V fun _ => 0) ∧ wx.rowIs (w.heap.size + 1) 103 176 (u8V h) ∧ Below w.heap.size w wx) (fun i _ => 4 - (intOf i).toNat)
  case atStart =>
    refine ⟨0, fun _ => 0, by omega, rfl, fun j hj => by omega, (row_alloc w _ 176 _).alloc _, ?_, ((Below.refl _ _).alloc (Nat.le_refl _) _).alloc (by simp) _⟩
    have h := row_alloc (w.alloc (.cells (bL 176 fun _ => 0).toArray 103)) 103 176 (fun _ => 0)
    rw [World.size_alloc] at h
    exact h
  case round =>
    obtain ⟨m, h, hm, rfl, hh, r0, r1, hbl⟩ := hrel
    by_cases hlt : m < 4
    · obtain ⟨q, eq⟩ : ∃ q, q = 4 * m := ⟨_, rfl⟩
      have w4 : IntKind.i64.wrap (4 * (m : Int)) = (q : Int) := w_mul (show 4 * m = q by omega) (by omega)
      have q16 : (q : Int) ≤ 16 := by omega
      have m44 : (m : Int) < 44 := by omega
      have hks : (key.size : Int) = 16 := by omega
      have m4 : m * 4 = q := by omega
      have m4' : 4 * m = q := by omega
      have HQ := hide eq
      have hsx := hide (ext_size key q 16 hk16 (by omega))
      have hat := hide (show ∀ j, j < 4 → (key.extract q 16).data.toList[j]? = some (bF key (q + j)) from fun j hj => ext_at key q 16 hk16 j (by omega))
      have hmin := hide (show 4 = Nat.min (key.extract q 16).size 4 by rw [hsx.out]; show 4 = min (16 - q) 4; omega)
      have hth := row_there (w := wr.drew) (o := q) (n := 4) r1 (by omega)
      clear eq
      obtain ⟨c, hc⟩ : ∃ c : Nat → UInt8, c = fun j => bF key (q + j) := ⟨_, rfl⟩
      have hat2 := hide (show ∀ j, j < 4 → (key.extract q 16).data.toList[j]? = some (c j) from fun j hj => by rw [hc]; exact hat.out j hj)
      have HC := hide (show ∀ j, c j = bF key (q + j) from fun j => by rw [hc])
      clear hc hat
      go_wp2_with fail
      go_region_held_law (fun _ => True) (trivial) (refine step_copy_S rfl (.tmp 16) (.tmp 20) 22 9 rfl 5 Tryz.underlying22 (by kernel_rfl) (w.heap.size + 1) q 4 4 (key.extract q 16) rfl rfl 4 c hmin.out hat2.out hth ?_)
      clear hth w4 hmin hat2 m4 m4' hsx
      go_wp2_with fail
      go_roundw
      case rel =>
        refine ⟨m + 1, _, by omega, by go_num, fun j hj => ?_, row_setCells_other r0.drew (by omega), row_setCells r1.drew (by omega), below_setCells' hbl.drew (by omega)⟩
        show (if q ≤ j ∧ j < q + 4 then c (j - q) else h j) = _
        have hQ := HQ.out
        by_cases e : q ≤ j ∧ j < q + 4
        · rw [if_pos e, HC.out, show q + (j - q) = j by omega]
        · rw [if_neg e]; exact hh.out j (by omega)
      case measure => simp [intOf]; omega
    · have hh4 : Hid (∀ j, j < 4 * 4 → h j = kB (bF key) j) := fun j hj => by rw [hh.out j (by omega), kB_lo _ _ (by omega)]
      clear hh
      obtain ⟨K, hK⟩ : ∃ K, K = bF key := ⟨_, rfl⟩
      rw [← hK] at hh4
      have HKK := hide hK
      clear hK
      go_wp2_with fail
      go_loopw [7, 8] (fun p i wx => ∃ (m : Nat) (P : UInt8) (h : Nat → UInt8), 4 ≤ m ∧ m ≤ 44 ∧ i = .int .i64 m ∧ p = .int .u8 (P.toNat : Int) ∧ Hid (P.toNat = rcN ((m - 1) / 4)) ∧ Hid (∀ j, j < 4 * m → h j = kB K j) ∧ wx.rowIs w.heap.size 103 176 (u8V fun _ => 0) ∧ wx.rowIs (w.heap.size + 1) 103 176 (u8V h) ∧ Below w.heap.size w wx) (fun _ i _ => 44 - (intOf i).toNat)
      case atStart => exact ⟨4, 1, h, by omega, by omega, rfl, rfl, rfl, hh4, r0, r1, hbl⟩
      case round =>
        clear hh4 r0 r1 hbl hm hlt
        obtain ⟨m, P, h, hm4, hm, rfl, rfl, hP, hh, r0, r1, hbl⟩ := hrel
        by_cases hlt : m < 44
        · obtain ⟨b1, eb1⟩ : ∃ x, x = m - 1 := ⟨_, rfl⟩
          obtain ⟨q1, eq1⟩ : ∃ x, x = 4 * b1 := ⟨_, rfl⟩
          have m1 : IntKind.i64.wrap ((m : Int) - 1) = (b1 : Int) := by simp only [IntKind.wrap_i64]; omega
          have m1' : (m : Int) - 1 = (b1 : Int) := by omega
          have n1 : 4 * b1 = q1 := eq1.symm
          have n1' : b1 * 4 = q1 := by omega
          have i1 : (b1 : Int) < 44 := by omega
          have hq1 : q1 + 4 ≤ 176 := by omega
          obtain ⟨L0, hL0⟩ : ∃ L : Nat → UInt8, L = fun j => h (q1 + j) := ⟨_, rfl⟩
          have HK0 := hide (show ∀ j, j < 4 → L0 j = h (q1 + j) from fun j _ => by rw [hL0])
          have HL0 := hide (show ∀ j, j < 4 → L0 j = kB K (4 * (m - 1) + j) from fun j hj => by rw [HK0.out j hj, hh.out _ (by omega), eq1, eb1])
          have hzl : w.heap.size + 1 < wr.heap.size := r1.lt
          have r2z := zeros8_row 4 wr #[Value.int .u8 0, Value.int .u8 0, Value.int .u8 0, Value.int .u8 0] 102 rfl
          have t2 := row_there (o := 0) (n := 4) r2z (by omega)
          have R0' := row_setCells_other (b := wr.heap.size) (o := 0) (vs := bL 4 L0) (r0.alloc (.cells #[Value.int .u8 0, Value.int .u8 0, Value.int .u8 0, Value.int .u8 0] 102)) (by omega)
          have R1' := row_setCells_other (b := wr.heap.size) (o := 0) (vs := bL 4 L0) (r1.alloc (.cells #[Value.int .u8 0, Value.int .u8 0, Value.int .u8 0, Value.int .u8 0] 102)) (by omega)
          have R2' := row_setCells0 (k := L0) r2z
          have RB' := below_setCells' (b := wr.heap.size) (o := 0) (vs := bL 4 L0) (hbl.alloc hbl.size (.cells #[Value.int .u8 0, Value.int .u8 0, Value.int .u8 0, Value.int .u8 0] 102)) (by omega)
          have SZ := hide (show ((wr.alloc (.cells #[Value.int .u8 0, Value.int .u8 0, Value.int .u8 0, Value.int .u8 0] 102)).setCells wr.heap.size 0 (bL 4 L0)).heap.size = wr.heap.size + 1 by rw [size_setCells, World.size_alloc])
          have hst := run_stB (P := Tryz.prog) (k := L0) t2
          have hlt' : (m : Int) < 44 := by omega
          clear hL0 eb1 eq1 t2
          by_cases h4 : m % 4 = 0
          · have h4' : (m : Int) % 4 = 0 := by omega
            go_wp2_with (first | (with_reducible (show wpList _ _ _ ({ dst := _, op := .load _ (.tmp 29), type := _, pos := _, after := _, guard := _ } :: _) _ _); refine wpList_load_B rfl 102 (.tmp 29) rfl (w.heap.size + 1) q1 rfl _ _ 4 _ L0 _ r1 hq1 HK0.out Tryz.underlying102 rfl Tryz.size4 ?_) | (with_reducible (show wpList _ _ _ ({ dst := _, op := .load _ (.tmp 9), type := _, pos := _, after := _, guard := _ } :: _) _ _); refine wpList_load_B rfl 102 (.tmp 9) rfl wr.heap.size 0 rfl _ _ 4 _ L0 _ R2' (Nat.le_refl _) (fun j _ => by rw [Nat.zero_add]) Tryz.underlying102 rfl Tryz.size4 ?_))
            have hgz : g < wr.heap.size := by have := hbl.size; omega
            clear r0 r1 hbl hst r2z
            generalize (wr.alloc (.cells #[Value.int .u8 0, Value.int .u8 0, Value.int .u8 0, Value.int .u8 0] 102)).setCells wr.heap.size 0 (bL 4 L0) = W5 at *
            generalize wr.heap.size = z at *
            have hg5 : g < W5.heap.size := by have := SZ.out; omega
            have ht5 : ∀ j, j < 256 → W5.cell? ⟨g, j, none⟩ = some (.int .u8 ((sbox j).toNat : Int)) := fun j hj => (RB'.cell (p := ⟨g, j, none⟩) hg).trans (HT.out j hj)
            refine (imp_mixed g L0 P W5 hg5 ht5).mono ?_
            rintro e W6 ⟨rfl, hb6⟩
            have s0 := R0'.of_block (hb6.block _ R0'.lt)
            have s1 := R1'.of_block (hb6.block _ R1'.lt)
            have s2 := R2'.of_block (hb6.block _ R2'.lt)
            have sb := RB'.trans (hb6.mono RB'.size)
            obtain ⟨L, hL⟩ : ∃ L, L = mxF L0 P := ⟨_, rfl⟩
            rw [← hL]
            have HL := hide (show ∀ r, r < 4 → L r = tB K m r from fun r hr => by
              rw [hL, mxF, tB, if_pos h4, HL0.out _ (Nat.mod_lt _ (by decide)), ← (show UInt8.ofNat P.toNat = P from UInt8.ofNat_toNat), hP.out, show (m - 1) / 4 = m / 4 - 1 by omega])
            have HP2 := hide (show (dU P).toNat = rcN ((m + 1 - 1) / 4) by
              rw [dU_toNat, hP.out, show (m + 1 - 1) / 4 = (m - 1) / 4 + 1 by omega, rcN, times2 ⟨rcN ((m - 1) / 4), rcN_lt _⟩])
            have hst := run_stB (P := Tryz.prog) (k := L) (row_there (o := 0) (n := 4) s2 (by omega))
            have r0 := row_setCells_other (b := z) (o := 0) (vs := bL 4 L) s0 (by omega)
            have r1 := row_setCells_other (b := z) (o := 0) (vs := bL 4 L) s1 (by omega)
            have r2 := row_setCells0 (k := L) s2
            have hbl := below_setCells' (b := z) (o := 0) (vs := bL 4 L) sb (by omega)
            have SP := hide (fun w => imp_doubledU P w)
            generalize dU P = P2 at *
            clear R0' R1' R2' RB' hb6 hg5 ht5 s0 s1 s2 sb hL SZ n1 n1' m1 m1' i1 hq1
            go_wp2_with fail
            refine (SP.out _).mono ?_
            rintro e W7 ⟨rfl, rfl⟩
            generalize W6.setCells z 0 (bL 4 L) = W7 at *
            clear hst
            go_wp2_with fail
            go_loopw [40] (fun i wx => ∃ (r : Nat) (h : Nat → UInt8), r ≤ 4 ∧ i = .int .i64 r ∧ Hid (∀ j, j < 4 * m + r → h j = kB K j) ∧ wx.rowIs w.heap.size 103 176 (u8V fun _ => 0) ∧ wx.rowIs (w.heap.size + 1) 103 176 (u8V h) ∧ wx.rowIs z 102 4 (u8V L) ∧ Below w.heap.size w wx) (fun i _ => 4 - (intOf i).toNat)
            case atStart => exact ⟨0, h, by omega, rfl, fun j hj => hh.out j (by omega), r0, r1, r2, hbl⟩
            case round =>
              clear r0 r1 r2 hbl hh
              obtain ⟨r, h, hr, rfl, hh, r0, r1, r2, hbl⟩ := hrel
              by_cases hlt4 : r < 4
              · obtain ⟨a4, ea4⟩ : ∃ x, x = m - 4 := ⟨_, rfl⟩
                obtain ⟨qa0, eqa0⟩ : ∃ x, x = 4 * a4 := ⟨_, rfl⟩
                obtain ⟨qa, eqa⟩ : ∃ x, x = qa0 + r := ⟨_, rfl⟩
                obtain ⟨qb0, eqb0⟩ : ∃ x, x = 4 * m := ⟨_, rfl⟩
                obtain ⟨qb, eqb⟩ : ∃ x, x = qb0 + r := ⟨_, rfl⟩
                have m4 : IntKind.i64.wrap ((m : Int) - 4) = (a4 : Int) := by simp only [IntKind.wrap_i64]; omega
                have n0 : 4 * a4 = qa0 := eqa0.symm
                have n0' : a4 * 4 = qa0 := by omega
                have n1 : qa0 + r = qa := eqa.symm
                have n2 : 4 * m = qb0 := eqb0.symm
                have n2' : m * 4 = qb0 := by omega
                have n3 : qb0 + r = qb := eqb.symm
                have i1 : (a4 : Int) < 44 := by omega
                have i2 : (m : Int) < 44 := by omega
                have i3 : (r : Int) < 4 := by omega
                have ca := r1.cell (i := qa) (by omega)
                have cb := r1.cell (i := qb) (by omega)
                have zb := r1.frozen qb
                have cl := r2.cell (i := r) hlt4
                have hqab : qb ≠ qa := by omega
                have hzw : w.heap.size + 1 ≠ z := by omega
                have hqb0 := hide (show qb = 4 * m + r by omega)
                have HV := hide (show h qa ^^^ L r = kB K qb by
                  rw [hh.out qa (by omega), HL.out r hlt4, show qa = 4 * m - 16 + r by omega, show qb = 4 * m + r by omega, kB_hi K m r (by omega) hlt4])
                have hx := r_xor8 (h qa) (L r)
                obtain ⟨Y, hY⟩ : ∃ Y, Y = h qa ^^^ L r := ⟨_, rfl⟩
                rw [← hY] at hx HV
                unfold u8V at ca cl
                generalize hA : h qa = A at *
                generalize hB : L r = B at *
                clear hA hB hY ea4 eqa0 eqa eqb0 eqb
                go_wp2_with fail
                go_region_held3 (fun w' => w'.cell? ⟨w.heap.size + 1, qa, none⟩ = some (.int .u8 (A.toNat : Int)) ∧ w'.cell? ⟨z, r, none⟩ = some (.int .u8 (B.toNat : Int))) (first | exact ⟨cell_off hqab ca, cell_far hzw cl⟩ | go_keep) (fail)
                rename_i _ hH
                clear hH m4 n0 n0' n1 n2 n2' n3 i1 i3 ca cb zb cl hx
                go_wp2_with fail
                go_roundw
                case rel =>
                  refine ⟨r + 1, fun j => if j = qb then Y else h j, by omega, by go_num, fun j hj => ?_, (r0.setOther (by simp) _).drew, (set_byte r1 rfl).drew, (r2.setOther (by simp; omega) _).drew, (hbl.setCell (by simp) _).drew⟩
                  show (if j = qb then Y else h j) = _
                  have hq := hqb0.out
                  by_cases e : j = qb
                  · rw [if_pos e, e, HV.out]
                  · rw [if_neg e]; exact hh.out j (by omega)
                case measure => simp [intOf]; omega
              · have hh' := hide (show ∀ j, j < 4 * (m + 1) → h j = kB K j from fun j hj => hh.out j (by omega))
                clear hh
                go_wp2_with fail
                go_roundw
                case rel => exact ⟨m + 1, _, h, by omega, by omega, by go_num, rfl, HP2, hh', r0, r1, hbl⟩
                case measure => simp [intOf]; omega
          · have h4' : ¬ (m : Int) % 4 = 0 := by omega
            have h4d : ((m : Int) % 4 == 0) = false := beq_eq_false_iff_ne.2 h4'
            have HL := hide (show ∀ r, r < 4 → L0 r = tB K m r from fun r hr => by
              rw [tB, if_neg h4, HL0.out r hr, show 4 * (m - 1) + r = 4 * m + r - 4 by omega])
            have HP2 := hide (show P.toNat = rcN ((m + 1 - 1) / 4) by rw [hP.out, show (m + 1 - 1) / 4 = (m - 1) / 4 by omega])
            go_wp2_with (first | (with_reducible (show wpList _ _ _ ({ dst := _, op := .load _ (.tmp 29), type := _, pos := _, after := _, guard := _ } :: _) _ _); refine wpList_load_B rfl 102 (.tmp 29) rfl (w.heap.size + 1) q1 rfl _ _ 4 _ L0 _ r1 hq1 HK0.out Tryz.underlying102 rfl Tryz.size4 ?_))
            clear r0 r1 hbl hst r2z
            generalize (wr.alloc (.cells #[Value.int .u8 0, Value.int .u8 0, Value.int .u8 0, Value.int .u8 0] 102)).setCells wr.heap.size 0 (bL 4 L0) = W5 at *
            generalize wr.heap.size = z at *
            have r0 := R0'
            have r1 := R1'
            have r2 := R2'
            have hbl := RB'
            clear R0' R1' R2' RB' SZ n1 n1' m1 m1' i1 hq1
            generalize L0 = L at *
            go_loopw [40] (fun i wx => ∃ (r : Nat) (h : Nat → UInt8), r ≤ 4 ∧ i = .int .i64 r ∧ Hid (∀ j, j < 4 * m + r → h j = kB K j) ∧ wx.rowIs w.heap.size 103 176 (u8V fun _ => 0) ∧ wx.rowIs (w.heap.size + 1) 103 176 (u8V h) ∧ wx.rowIs z 102 4 (u8V L) ∧ Below w.heap.size w wx) (fun i _ => 4 - (intOf i).toNat)
            case atStart => exact ⟨0, h, by omega, rfl, fun j hj => hh.out j (by omega), r0, r1, r2, hbl⟩
            case round =>
              clear r0 r1 r2 hbl hh
              obtain ⟨r, h, hr, rfl, hh, r0, r1, r2, hbl⟩ := hrel
              by_cases hlt4 : r < 4
              · obtain ⟨a4, ea4⟩ : ∃ x, x = m - 4 := ⟨_, rfl⟩
                obtain ⟨qa0, eqa0⟩ : ∃ x, x = 4 * a4 := ⟨_, rfl⟩
                obtain ⟨qa, eqa⟩ : ∃ x, x = qa0 + r := ⟨_, rfl⟩
                obtain ⟨qb0, eqb0⟩ : ∃ x, x = 4 * m := ⟨_, rfl⟩
                obtain ⟨qb, eqb⟩ : ∃ x, x = qb0 + r := ⟨_, rfl⟩
                have m4 : IntKind.i64.wrap ((m : Int) - 4) = (a4 : Int) := by simp only [IntKind.wrap_i64]; omega
                have n0 : 4 * a4 = qa0 := eqa0.symm
                have n0' : a4 * 4 = qa0 := by omega
                have n1 : qa0 + r = qa := eqa.symm
                have n2 : 4 * m = qb0 := eqb0.symm
                have n2' : m * 4 = qb0 := by omega
                have n3 : qb0 + r = qb := eqb.symm
                have i1 : (a4 : Int) < 44 := by omega
                have i2 : (m : Int) < 44 := by omega
                have i3 : (r : Int) < 4 := by omega
                have ca := r1.cell (i := qa) (by omega)
                have cb := r1.cell (i := qb) (by omega)
                have zb := r1.frozen qb
                have cl := r2.cell (i := r) hlt4
                have hqab : qb ≠ qa := by omega
                have hzw : w.heap.size + 1 ≠ z := by omega
                have hqb0 := hide (show qb = 4 * m + r by omega)
                have HV := hide (show h qa ^^^ L r = kB K qb by
                  rw [hh.out qa (by omega), HL.out r hlt4, show qa = 4 * m - 16 + r by omega, show qb = 4 * m + r by omega, kB_hi K m r (by omega) hlt4])
                have hx := r_xor8 (h qa) (L r)
                obtain ⟨Y, hY⟩ : ∃ Y, Y = h qa ^^^ L r := ⟨_, rfl⟩
                rw [← hY] at hx HV
                unfold u8V at ca cl
                generalize hA : h qa = A at *
                generalize hB : L r = B at *
                clear hA hB hY ea4 eqa0 eqa eqb0 eqb
                go_wp2_with fail
                go_region_held3 (fun w' => w'.cell? ⟨w.heap.size + 1, qa, none⟩ = some (.int .u8 (A.toNat : Int)) ∧ w'.cell? ⟨z, r, none⟩ = some (.int .u8 (B.toNat : Int))) (first | exact ⟨cell_off hqab ca, cell_far hzw cl⟩ | go_keep) (fail)
                rename_i _ hH
                clear hH m4 n0 n0' n1 n2 n2' n3 i1 i3 ca cb zb cl hx
                go_wp2_with fail
                go_roundw
                case rel =>
                  refine ⟨r + 1, fun j => if j = qb then Y else h j, by omega, by go_num, fun j hj => ?_, (r0.setOther (by simp) _).drew, (set_byte r1 rfl).drew, (r2.setOther (by simp; omega) _).drew, (hbl.setCell (by simp) _).drew⟩
                  show (if j = qb then Y else h j) = _
                  have hq := hqb0.out
                  by_cases e : j = qb
                  · rw [if_pos e, e, HV.out]
                  · rw [if_neg e]; exact hh.out j (by omega)
                case measure => simp [intOf]; omega
              · have hh' := hide (show ∀ j, j < 4 * (m + 1) → h j = kB K j from fun j hj => hh.out j (by omega))
                clear hh
                go_wp2_with fail
                go_roundw
                case rel => exact ⟨m + 1, _, h, by omega, by omega, by go_num, rfl, HP2, hh', r0, r1, hbl⟩
                case measure => simp [intOf]; omega
        · have e44 : m = 44 := by omega
          have hlt' : ¬ (m : Int) < 44 := by omega
          have r1' : wr.rowIs (w.heap.size + 1) 103 176 (u8V (kB K)) := r1.congr fun i hi => by rw [u8V, u8V, hh.out i (by omega)]
          have hth := row_there (o := 0) (n := 176) r0 (by omega)
          have hfin := row_setCells0 (k := kB K) r0
          clear hh r1
          go_wp2_with (first | (with_reducible (show wpList _ _ _ ({ dst := _, op := .load _ (.tmp 5), type := _, pos := _, after := _, guard := _ } :: _) _ _); refine wpList_load_B rfl 103 _ rfl (w.heap.size + 1) 0 rfl _ _ 176 _ (kB K) _ r1' (by omega) (fun j _ => by rw [Nat.zero_add]) Tryz.underlying103 rfl hsz ?_; simp only [Act.put, List.setIfInBounds_toArray, List.set_cons_zero, List.set_cons_succ]) | (with_reducible (show wpList _ _ _ ({ dst := _, op := .store _ (.tmp 4) (.tmp 58), type := _, pos := _, after := _, guard := _ } :: _) _ _); refine wpList_store_B rfl 103 _ _ rfl w.heap.size 0 176 (kB K) rfl rfl hth hsz ?_))
          exact bodyPost_ret (ret_B Tryz.results75 _ _ w.heap.size 176 _ _ _ rfl hfin Tryz.underlying103 rfl hsz) rfl ⟨by rw [HKK.out], below_setCells' hbl (Nat.le_refl _)⟩
end Go.Proofs.YtconcnndghmdfaaGreatDoor
namespace Go.Proofs.YtconcnndghmdfaaGreatDoor
open Go.RowKit
set_option maxRecDepth 100000 in
theorem built_cip (f : Nat → UInt8) : Tryz.prog.built 100 [(0, .agg (bL 256 f).toArray)] = some (bL 432 fun j => if j < 256 then f j else 0).toArray := by kernel_rfl
theorem wpList_build_one {P : Program} {ops : Array Oper} {rest : List Oper} {o : Oper} {a : Act} {w : World} {Q : Exit → Act → World → Prop} (hg : o.guard = none) (t : TypeId) (i : Nat) (x : Operand) (ho : o.op = .build t #[(i, x)])
    (v : Value) (hv : a.eval x = v) (cells : Array Value) (hb : P.built t [(i, v)] = some cells)
    (h : wpList P ops Q rest (a.put o.dst (.agg cells)) w) : wpList P ops Q (o :: rest) a w := by
  subst hv
  have e : (#[(i, x)].map fun ((i, x) : Nat × Operand) => (i, a.eval x)).toList = [(i, a.eval x)] := by simp
  refine wpList_build hg t _ ho (by rw [e, hb]; rfl) ?_
  rw [e, hb]; exact h
end Go.Proofs.YtconcnndghmdfaaGreatDoor
namespace Go.Proofs.YtconcnndghmdfaaGreatDoor
open Go.RowKit
attribute [local irreducible] times sbox dbl dU
/-- What a cipher's block holds: the box, and behind it the keys of the rounds. -/
def cipF (K : Nat → UInt8) (j : Nat) : UInt8 := if j < 256 then sbox j else K (j - 256)
set_option maxRecDepth 100000 in
set_option maxHeartbeats 1600000 in
theorem imp_cipher (key : ByteArray) (w : World) (hk16 : key.size = 16) :
    Calls Tryz.prog 49 #[.string key] w fun e w' => ∃ g, e = .returned (.pointer (some ⟨g, 0, none⟩)) ∧ w.heap.size ≤ g ∧ w'.rowIs g 100 432 (u8V (cipF (kB (bF key)))) ∧ Below w.heap.size w w' := by
  go_enter Tryz.func49, Tryz.ntmps49
  go_wp2_with fail
  refine (imp_table w).mono ?_
  rintro e w1 ⟨rfl, hb1⟩
  have hbt := hide (built_cip sbox)
  obtain ⟨f0, hf0⟩ : ∃ f : Nat → UInt8, f = fun j => if j < 256 then sbox j else 0 := ⟨_, rfl⟩
  rw [← hf0] at hbt
  have HF0 := hide (show ∀ j, j < 256 → f0 j = sbox j from fun j hj => by rw [hf0]; exact if_pos hj)
  clear hf0
  go_wp2_with (first | (with_reducible (show wpList _ _ _ ({ dst := _, op := .build _ _, type := _, pos := _, after := _, guard := _ } :: _) _ _); refine wpList_build_one rfl 100 0 _ rfl (.agg (bL 256 sbox).toArray) rfl _ hbt.out ?_))
  have x0 := row_alloc w1 100 432 f0
  have xb := hb1.alloc hb1.size (.cells (bL 432 f0).toArray 100)
  have hgw := hb1.size
  generalize w1.alloc (.cells (bL 432 f0).toArray 100) = W2 at *
  generalize w1.heap.size = g at *
  refine (imp_words g key W2 hk16 x0.lt (fun j hj => by rw [x0.cell (i := j) (by omega), u8V, HF0.out j hj])).mono ?_
  rintro e W3 ⟨rfl, hb3⟩
  have y0 := x0.of_block (hb3.block _ x0.lt)
  have yb := xb.trans (hb3.mono xb.size)
  obtain ⟨K, hK⟩ : ∃ K, K = kB (bF key) := ⟨_, rfl⟩
  rw [← hK]
  have HK := hide hK
  clear x0 xb hb3 hK hb1 hbt
  go_wp2_with fail
  go_loopw [12] (fun i wx => ∃ (m : Nat) (h : Nat → UInt8), m ≤ 44 ∧ i = .int .i64 m ∧ Hid (∀ j, j < 256 + 4 * m → h j = cipF K j) ∧ wx.rowIs g 100 432 (u8V h) ∧ Below w.heap.size w wx) (fun i _ => 44 - (intOf i).toNat)
  case atStart => exact ⟨0, f0, by omega, rfl, fun j hj => by rw [HF0.out j (by omega), cipF, if_pos (by omega)], y0, yb⟩
  case round =>
    clear y0 yb
    obtain ⟨m, h, hm, rfl, hh, r0, hbl⟩ := hrel
    by_cases hlt : m < 44
    · have hlt' : (m : Int) < 44 := by omega
      obtain ⟨L, hL⟩ : ∃ L : Nat → UInt8, L = fun j => K (4 * m + j) := ⟨_, rfl⟩
      have HL := hide (show ∀ j, L j = K (4 * m + j) from fun j => by rw [hL])
      have hidx : ∀ w, (Instr.index 103 (.agg (bL 176 K).toArray) (.int .i64 (m : Int))).run Tryz.prog w = .ok (.agg (bL 4 L).toArray) w := run_index_part 103 102 44 4 176 K L _ m Tryz.underlying103 Tryz.underlying102 rfl Tryz.size4 hlt rfl (fun j _ => HL.out j)
      have r2z := zeros8_row 4 wr #[Value.int .u8 0, Value.int .u8 0, Value.int .u8 0, Value.int .u8 0] 102 rfl
      have hst := run_stB (P := Tryz.prog) (k := L) (row_there (o := 0) (n := 4) r2z (by omega))
      have hgl := r0.lt
      have R0 := row_setCells_other (b := wr.heap.size) (o := 0) (vs := bL 4 L) (r0.alloc (.cells #[Value.int .u8 0, Value.int .u8 0, Value.int .u8 0, Value.int .u8 0] 102)) (by omega)
      have R2 := row_setCells0 (k := L) r2z
      have RB := below_setCells' (b := wr.heap.size) (o := 0) (vs := bL 4 L) (hbl.alloc hbl.size (.cells #[Value.int .u8 0, Value.int .u8 0, Value.int .u8 0, Value.int .u8 0] 102)) hbl.size
      clear hL r2z r0 hbl
      go_wp2_with fail
      clear hst hidx
      generalize (wr.alloc (.cells #[Value.int .u8 0, Value.int .u8 0, Value.int .u8 0, Value.int .u8 0] 102)).setCells wr.heap.size 0 (bL 4 L) = W5 at *
      generalize wr.heap.size = z at *
      obtain ⟨c, ec⟩ : ∃ x, x = m / 4 := ⟨_, rfl⟩
      obtain ⟨r, er⟩ : ∃ x, x = m % 4 := ⟨_, rfl⟩
      obtain ⟨o1, eo1⟩ : ∃ x, x = 256 + 16 * c := ⟨_, rfl⟩
      obtain ⟨x4, ex4⟩ : ∃ x, x = 4 * r := ⟨_, rfl⟩
      obtain ⟨o2, eo2⟩ : ∃ x, x = o1 + x4 := ⟨_, rfl⟩
      have t1 : (m : Int) / 4 = (c : Int) := by omega
      have t1' : (m : Int).tdiv 4 = (c : Int) := by rw [Int.tdiv_eq_ediv_of_nonneg (by omega)]; exact t1
      have t2 : (m : Int) % 4 = (r : Int) := by omega
      have t2' : (m : Int).tmod 4 = (r : Int) := by rw [Int.tmod_eq_emod_of_nonneg (by omega)]; exact t2
      have w1 : IntKind.i64.wrap (c : Int) = (c : Int) := by simp only [IntKind.wrap_i64]; omega
      have w2 : IntKind.i64.wrap (r : Int) = (r : Int) := by simp only [IntKind.wrap_i64]; omega
      have w3 : IntKind.i64.wrap (4 * (r : Int)) = (x4 : Int) := by simp only [IntKind.wrap_i64]; omega
      have c11 : (c : Int) < 11 := by omega
      have x12 : (x4 : Int) ≤ 16 := by omega
      have x16 : ¬ 16 = x4 := by omega
      have n1 : 256 + 16 * c = o1 := eo1.symm
      have n1' : 256 + c * 16 = o1 := by omega
      have n2 : o1 + x4 = o2 := eo2.symm
      have HO := hide (show o2 = 256 + 4 * m by omega)
      have hx12 : x4 ≤ 12 := by omega
      have hmin := hide (show 4 = Nat.min 4 (16 - x4) by show 4 = min 4 (16 - x4); omega)
      have hrg := row_range0 (w := W5.drew) R2
      have hth := row_there (w := W5.drew) (o := o2) (n := 4) R0 (by omega)
      clear ec er eo1 ex4 eo2
      go_region_held_law (fun _ => True) (trivial) (refine step_copy_B rfl (.tmp 25) (.tmp 26) 22 22 rfl 5 Tryz.underlying22 (by kernel_rfl) g o2 (16 - x4) (16 - x4) z 0 4 4 rfl rfl 4 L hmin.out hrg hth ?_)
      clear hrg hth hmin t1 t1' t2 t2' w1 w2 w3 c11 x16 n1 n1' n2
      go_wp2_with fail
      go_roundw
      case rel =>
        refine ⟨m + 1, _, by omega, by go_num, fun j hj => ?_, row_setCells R0.drew (by have := HO.out; omega), below_setCells' RB.drew hgw⟩
        show (if o2 ≤ j ∧ j < o2 + 4 then L (j - o2) else h j) = _
        have hO := HO.out
        by_cases e : o2 ≤ j ∧ j < o2 + 4
        · rw [if_pos e, HL.out, cipF, if_neg (by omega), show 4 * m + (j - o2) = j - 256 by omega]
        · rw [if_neg e]; exact hh.out j (by omega)
      case measure => simp [intOf]; omega
    · have hlt' : ¬ (m : Int) < 44 := by omega
      have r0' : wr.rowIs g 100 432 (u8V (cipF (kB (bF key)))) := r0.congr fun i hi => by rw [u8V, u8V, hh.out i (by omega), HK.out]
      clear hh
      go_wp2_with fail
      go_ret
      exact ⟨g, rfl, hgw, r0', hbl⟩
end Go.Proofs.YtconcnndghmdfaaGreatDoor
