/- Put together: ImpTab, ImpAdd16, ImpMixed, ImpCol. -/
import Derived.Test.YtconcnndghmdfaaGreatDoorSe28
import Derived.Test.YtconcnndghmdfaaGreatDoorSe12
import Derived.Test.YtconcnndghmdfaaGreatDoorSe6
import Derived.Deep.QuietTactic
import Derived.BigQuiet
namespace Go.Proofs.YtconcnndghmdfaaGreatDoor
open Go.RowKit
theorem Tryz.infoTab : (Tryz.prog.info? 96).map (fun i => (i.zero, i.size)) = some (some (.agg (bL 256 fun _ => 0).toArray), 256) := by kernel_rfl
theorem ofNat_toNat (n : Nat) (h : n < 256) : (UInt8.ofNat n).toNat = n := by rw [UInt8.toNat_ofNat']; exact Nat.mod_eq_of_lt h
attribute [local irreducible] times ring it
set_option maxRecDepth 100000 in
set_option maxHeartbeats 800000 in
theorem imp_table (w : World) :
    Calls Tryz.prog 74 #[] w fun e w' => e = .returned (.agg (bL 256 sbox).toArray) ∧ Below w.heap.size w w' := by
  obtain ⟨hz, hsz⟩ := zero_of_info Tryz.infoTab
  have r1 := row_alloc (w.alloc (.cells (bL 256 fun _ => 0).toArray 96)) 96 256 (fun _ => 0)
  rw [World.size_alloc] at r1
  have c0 := r1.cell (i := 0) (by omega)
  have f0 := r1.frozen 0
  go_enter Tryz.func74, Tryz.ntmps74
  go_wp2_with fail
  clear hz c0 f0
  go_loopw [2, 3, 5] (fun p u i wx => ∃ (k P U : Nat) (f : Nat → UInt8), k ≤ 255 ∧ i = .int .i64 k ∧ p = .int .u8 (P : Nat) ∧ u = .int .u8 (U : Nat) ∧ Hid (P = it 3 k) ∧ Hid (U = it 246 k) ∧ P < 256 ∧ U < 256 ∧ Hid (∀ j, j < 256 → f j = tabAt k j) ∧ wx.rowIs w.heap.size 96 256 (u8V fun _ => 0) ∧ wx.rowIs (w.heap.size + 1) 96 256 (u8V f) ∧ Below w.heap.size w wx) (fun _ _ i _ => 255 - (intOf i).toNat)
  case atStart => exact ⟨0, 1, 1, fun j => if j = 0 then 99 else 0, by omega, rfl, rfl, rfl, (it_zero 3).symm, (it_zero 246).symm, by omega, by omega, fun j _ => rfl, (row_alloc w _ 256 _).alloc _, by have h := row_alloc_set (w.alloc (.cells (bL 256 fun _ => 0).toArray 96)) 96 256 0 (fun _ => 0) 99 99 rfl; rw [World.size_alloc] at h; exact h, ((Below.refl _ _).alloc (Nat.le_refl _) _).alloc (by simp) _⟩
  case round =>
    clear r1
    obtain ⟨k, P, U, f, hk, rfl, rfl, rfl, hP, hU, hP8, hU8, hf, hres, hrw, hbl⟩ := hrel
    by_cases hlt : k < 255
    · have hR := ring_lt U hU8 5 (by omega)
      have ck := hrw.cell (i := P) hP8
      have hfz := hrw.frozen P
      have hP' : (P : Int) < 256 := by omega
      have HV := hide (show UInt8.ofNat (ring U 5) = UInt8.ofNat (ring (it 246 k) 5) by rw [hU.out])
      have HR := hide (ofNat_toNat (ring U 5) hR)
      have e3 := hide (show times P 3 = it 3 (k + 1) by rw [hP.out, it_succ])
      have e246 := hide (show times U 246 = it 246 (k + 1) by rw [hU.out, it_succ])
      have l3 := times_lt P 3 hP8
      have l246 := times_lt U 246 hU8
      have s1 := fun w => imp_turned U w hU8
      have s2 := fun w => imp_times P 3 w hP8 (by decide)
      have s3 := fun w => imp_times U 246 w hU8 (by decide)
      generalize ring U 5 = R at *
      generalize times P 3 = P3 at *
      generalize times U 246 = U3 at *
      have S := hide (And.intro s1 (And.intro s2 s3))
      clear s1 s2 s3 hsz
      go_wp2_with fail
      refine (S.out.1 _).mono ?_
      rintro e w1 ⟨rfl, rfl⟩
      go_wp2_with fail
      refine (S.out.2.1 _).mono ?_
      rintro e w1 ⟨rfl, rfl⟩
      go_wp2_with fail
      refine (S.out.2.2 _).mono ?_
      rintro e w1 ⟨rfl, rfl⟩
      go_wp2_with fail
      go_roundw
      case rel =>
        refine ⟨k + 1, P3, U3, fun j => if j = P then UInt8.ofNat R else f j, by omega, by go_num, rfl, rfl, e3, e246, l3, l246, fun j hj => ?_, hres.setOther (by simp) _, set_byte hrw HR.out.symm, hbl.setCell (by simp) _⟩
        show (if j = P then UInt8.ofNat R else f j) = if j = it 3 k then _ else tabAt k j
        rw [← hP.out, HV.out, hf.out j hj]
      case measure => simp [intOf]; omega
    · have hrw2 : wr.rowIs (w.heap.size + 1) 96 256 (u8V sbox) := hrw.congr fun i hi => by rw [u8V, u8V, hf.out i hi, show k = 255 by omega, tab_end i hi]
      have hth := row_there (o := 0) (n := 256) hres (by omega)
      have hfin := row_setCells0 (k := sbox) hres
      clear hf hrw
      go_wp2_with (first | (refine wpList_load_B rfl 96 _ rfl (w.heap.size + 1) 0 rfl _ _ 256 _ sbox _ hrw2 (by omega) (fun j _ => by rw [Nat.zero_add]) Tryz.underlying96 rfl hsz ?_) | (refine wpList_store_B rfl 96 _ _ rfl w.heap.size 0 256 sbox rfl rfl hth hsz ?_))
      exact bodyPost_ret (ret_B Tryz.results74 _ _ w.heap.size 256 _ sbox _ rfl hfin Tryz.underlying96 rfl hsz) rfl ⟨rfl, below_setCells' hbl (Nat.le_refl _)⟩
end Go.Proofs.YtconcnndghmdfaaGreatDoor
namespace Go.Proofs.YtconcnndghmdfaaGreatDoor
open Go.RowKit
attribute [local irreducible] times sbox
theorem Tryz.size16 : (Tryz.prog.info? 70).map (·.size) = some 16 := by kernel_rfl
set_option maxRecDepth 100000 in
set_option maxHeartbeats 800000 in
theorem imp_added (f k : Nat → UInt8) (w : World) :
    Calls Tryz.prog 52 #[.agg (bL 16 f).toArray, .agg (bL 16 k).toArray] w fun e w' => e = .returned (.agg (bL 16 fun j => f j ^^^ k j).toArray) ∧ Below w.heap.size w w' := by
  go_enter Tryz.func52, Tryz.ntmps52
  go_wp2_with fail
  go_loopw [6] (fun i wx => ∃ (m : Nat) (h : Nat → UInt8), m ≤ 16 ∧ i = .int .i64 m ∧ Hid (∀ j, j < 16 → h j = if j < m then f j ^^^ k j else f j) ∧ wx.rowIs w.heap.size 70 16 (u8V h) ∧ wx.rowIs (w.heap.size + 1) 70 16 (u8V k) ∧ wx.rowIs (w.heap.size + 2) 70 16 (u8V fun _ => 0) ∧ Below w.heap.size w wx) (fun i _ => 16 - (intOf i).toNat)
  case atStart =>
    refine ⟨0, f, by omega, rfl, fun j _ => by simp, ((row_alloc w _ 16 f).alloc _).alloc _, ?_, ?_, (((Below.refl _ _).alloc (Nat.le_refl _) _).alloc (by simp) _).alloc (by simp; omega) _⟩
    · have h := row_alloc (w.alloc (.cells (bL 16 f).toArray 70)) 70 16 k
      rw [World.size_alloc] at h
      exact h.alloc _
    · have h := zeros8_row 16 ((w.alloc (.cells (bL 16 f).toArray 70)).alloc (.cells (bL 16 k).toArray 70)) _ 70 rfl
      rw [World.size_alloc, World.size_alloc] at h
      exact h
  case round =>
    obtain ⟨m, h, hm, rfl, hh, r0, r1, r2, hbl⟩ := hrel
    by_cases hlt : m < 16
    · have c0 := r0.cell (i := m) hlt
      have c1 := r1.cell (i := m) hlt
      have z0 := r0.frozen m
      have hx := r_xor8 (h m) (k m)
      obtain ⟨Z, hZ⟩ : ∃ Z, Z = f m ^^^ k m := ⟨_, rfl⟩
      have HV := hide (show h m ^^^ k m = Z by rw [hh.out m hlt, if_neg (by omega), hZ])
      have HZ := hide hZ
      clear hZ
      obtain ⟨Y, hY⟩ : ∃ Y, Y = h m ^^^ k m := ⟨_, rfl⟩
      rw [← hY] at hx HV
      have hm' : (m : Int) < 16 := by omega
      unfold u8V at c0 c1
      generalize hA : h m = A at *
      generalize hB : k m = B at c1 hx hY HV
      clear hA hB hY
      go_wp2_with fail
      go_region
      clear c0 c1 z0 hx
      go_wp2_with fail
      go_roundw
      case rel =>
        refine ⟨m + 1, fun j => if j = m then Y else h j, by omega, by go_num, fun j hj => ?_, (set_byte r0 rfl).drew, (r1.setOther (by simp) _).drew, (r2.setOther (by simp) _).drew, (hbl.setCell (Nat.le_refl _) _).drew⟩
        show (if j = m then Y else h j) = _
        by_cases e : j = m
        · rw [if_pos e, if_pos (by omega), HV.out, e, HZ.out]
        · rw [if_neg e, hh.out j hj]
          by_cases e2 : j < m
          · rw [if_pos e2, if_pos (by omega)]
          · rw [if_neg e2, if_neg (by omega)]
      case measure => simp [intOf]; omega
    · have r0' : wr.rowIs w.heap.size 70 16 (u8V fun j => f j ^^^ k j) := r0.congr fun i hi => by rw [u8V, u8V, hh.out i hi, if_pos (by omega)]
      have hth := row_there (o := 0) (n := 16) r2 (by omega)
      have hfin := row_setCells0 (k := fun j => f j ^^^ k j) r2
      clear hh r0
      go_wp2_with (first | (refine wpList_load_B rfl 70 _ rfl w.heap.size 0 rfl _ _ 16 _ (fun j => f j ^^^ k j) _ r0' (by omega) (fun j _ => by rw [Nat.zero_add]) Tryz.underlying70 rfl Tryz.size16 ?_) | (refine wpList_store_B rfl 70 _ _ rfl (w.heap.size + 2) 0 16 (fun j => f j ^^^ k j) rfl rfl hth Tryz.size16 ?_))
      exact bodyPost_ret (ret_B Tryz.results52 _ _ (w.heap.size + 2) 16 _ _ _ rfl hfin Tryz.underlying70 rfl Tryz.size16) rfl ⟨rfl, below_setCells' hbl (by omega)⟩
set_option maxRecDepth 100000 in
set_option maxHeartbeats 800000 in
theorem imp_shifted (g : Nat) (f : Nat → UInt8) (w : World) (hg : g < w.heap.size) (ht : ∀ j, j < 256 → w.cell? ⟨g, j, none⟩ = some (.int .u8 ((sbox j).toNat : Int))) :
    Calls Tryz.prog 77 #[.pointer (some ⟨g, 0, none⟩), .agg (bL 16 f).toArray] w fun e w' => e = .returned (.agg (bL 16 (subF f)).toArray) ∧ Below w.heap.size w w' := by
  have HT := hide ht
  clear ht
  go_enter Tryz.func77, Tryz.ntmps77
  go_wp2_with fail
  go_loopw [10] (fun i wx => ∃ (m : Nat) (h : Nat → UInt8), m ≤ 16 ∧ i = .int .i64 m ∧ Hid (∀ j, j < m → h j = subF f j) ∧ wx.rowIs w.heap.size 70 16 (u8V f) ∧ wx.rowIs (w.heap.size + 1) 70 16 (u8V fun _ => 0) ∧ wx.rowIs (w.heap.size + 2) 70 16 (u8V h) ∧ Below w.heap.size w wx) (fun i _ => 16 - (intOf i).toNat)
  case atStart =>
    refine ⟨0, fun _ => 0, by omega, rfl, fun j hj => by omega, ((row_alloc w _ 16 f).alloc _).alloc _, ?_, ?_, (((Below.refl _ _).alloc (Nat.le_refl _) _).alloc (by simp) _).alloc (by simp; omega) _⟩
    · have h := zeros8_row 16 (w.alloc (.cells (bL 16 f).toArray 70)) _ 70 rfl
      rw [World.size_alloc] at h
      exact h.alloc _
    · have h := zeros8_row 16 ((w.alloc (.cells (bL 16 f).toArray 70)).alloc (.cells (List.replicate 16 (Value.int .u8 0)).toArray 70)) _ 70 rfl
      rw [World.size_alloc, World.size_alloc] at h
      exact h
  case round =>
    obtain ⟨m, h, hm, rfl, hh, r0, r1, r2, hbl⟩ := hrel
    by_cases hlt : m < 16
    · obtain ⟨c, ec⟩ : ∃ c, c = m / 4 := ⟨_, rfl⟩
      obtain ⟨r, er⟩ : ∃ c, c = m % 4 := ⟨_, rfl⟩
      obtain ⟨s, es⟩ : ∃ x, x = (c + r) % 4 := ⟨_, rfl⟩
      obtain ⟨q, eq⟩ : ∃ x, x = 4 * s + r := ⟨_, rfl⟩
      have t1 : (m : Int) / 4 = (c : Int) := by omega
      have t2 : (m : Int) % 4 = (r : Int) := by omega
      have t3 : ((c : Int) + (r : Int)) % 4 = (s : Int) := by omega
      have t4 : 4 * (s : Int) + (r : Int) = (q : Int) := by omega
      have hc4 : (c : Int) ≤ 3 := by omega
      have hr4 : (r : Int) ≤ 3 := by omega
      have hs4 : (s : Int) ≤ 3 := by omega
      have hq : q < 16 := by omega
      have hq' : (q : Int) < 16 := by omega
      have hm' : (m : Int) < 16 := by omega
      have HV := hide (show subF f m = sbox (f q).toNat by rw [subF, subB, ← ec, ← er, ← es, ← eq])
      have cq := r0.cell (i := q) hq
      unfold u8V at cq
      have ho := r2.cell (i := m) hlt
      have hz := r2.frozen m
      have hA8 := (f q).toNat_lt
      have ct : wr.cell? ⟨g, (f q).toNat, none⟩ = some (.int .u8 ((sbox (f q).toNat).toNat : Int)) := (hbl.cell (p := ⟨g, (f q).toNat, none⟩) hg).trans (HT.out _ hA8)
      generalize hY : sbox (f q).toNat = Y at *
      generalize hA : f q = A at *
      have hA' : (A.toNat : Int) < 256 := by omega
      have HE := hide (And.intro ec (And.intro er (And.intro es eq)))
      clear ec er es eq hY hA
      go_wp2_with fail
      go_region_held3 (fun w' => w'.cell? ⟨w.heap.size, q, none⟩ = some (.int .u8 (A.toNat : Int)) ∧ w'.cell? ⟨g, A.toNat, none⟩ = some (.int .u8 (Y.toNat : Int))) (first | exact ⟨cell_far (by omega) cq, cell_far (by omega) ct⟩ | go_keep) (fail)
      rename_i _ hH
      clear hH t1 t2 t3 t4 cq ct ho hz hA8 hA' hq'
      go_wp2_with fail
      go_roundw
      case rel =>
        refine ⟨m + 1, fun j => if j = m then Y else h j, by omega, by go_num, fun j hj => ?_, (r0.setOther (by simp; omega) _).drew, (r1.setOther (by simp) _).drew, (set_byte r2 rfl).drew, (hbl.setCell (by simp; omega) _).drew⟩
        show (if j = m then Y else h j) = _
        by_cases e : j = m
        · rw [if_pos e, e, HV.out]
        · rw [if_neg e]; exact hh.out j (by omega)
      case measure => simp [intOf]; omega
    · have r2' : wr.rowIs (w.heap.size + 2) 70 16 (u8V (subF f)) := r2.congr fun i hi => by rw [u8V, u8V, hh.out i (by omega)]
      have hth := row_there (o := 0) (n := 16) r1 (by omega)
      have hfin := row_setCells0 (k := subF f) r1
      clear hh r2
      go_wp2_with (first | (refine wpList_load_B rfl 70 _ rfl (w.heap.size + 2) 0 rfl _ _ 16 _ (subF f) _ r2' (by omega) (fun j _ => by rw [Nat.zero_add]) Tryz.underlying70 rfl Tryz.size16 ?_) | (refine wpList_store_B rfl 70 _ _ rfl (w.heap.size + 1) 0 16 (subF f) rfl rfl hth Tryz.size16 ?_))
      exact bodyPost_ret (ret_B Tryz.results77 _ _ (w.heap.size + 1) 16 _ _ _ rfl hfin Tryz.underlying70 rfl Tryz.size16) rfl ⟨rfl, below_setCells' hbl (by omega)⟩
end Go.Proofs.YtconcnndghmdfaaGreatDoor
namespace Go.Proofs.YtconcnndghmdfaaGreatDoor
open Go.RowKit
attribute [local irreducible] times sbox
theorem Tryz.size4m : (Tryz.prog.info? 102).map (·.size) = some 4 := by kernel_rfl
def mxF (f : Nat → UInt8) (P : UInt8) (j : Nat) : UInt8 := sbox (f ((j + 1) % 4)).toNat ^^^ (if j = 0 then P else 0)
set_option maxRecDepth 100000 in
set_option maxHeartbeats 800000 in
theorem imp_mixed (g : Nat) (f : Nat → UInt8) (P : UInt8) (w : World) (hg : g < w.heap.size) (ht : ∀ j, j < 256 → w.cell? ⟨g, j, none⟩ = some (.int .u8 ((sbox j).toNat : Int))) :
    Calls Tryz.prog 109 #[.pointer (some ⟨g, 0, none⟩), .agg (bL 4 f).toArray, .int .u8 (P.toNat : Int)] w fun e w' => e = .returned (.agg (bL 4 (mxF f P)).toArray) ∧ Below w.heap.size w w' := by
  have HT := hide ht
  clear ht
  go_enter Tryz.func109, Tryz.ntmps109
  go_wp2_with fail
  go_loopw [9] (fun i wx => ∃ (m : Nat) (h : Nat → UInt8), m ≤ 4 ∧ i = .int .i64 m ∧ Hid (∀ j, j < m → h j = sbox (f ((j + 1) % 4)).toNat) ∧ wx.rowIs w.heap.size 102 4 (u8V f) ∧ wx.rowIs (w.heap.size + 1) 102 4 (u8V fun _ => 0) ∧ wx.rowIs (w.heap.size + 2) 102 4 (u8V h) ∧ Below w.heap.size w wx) (fun i _ => 4 - (intOf i).toNat)
  case atStart =>
    refine ⟨0, fun _ => 0, by omega, rfl, fun j hj => by omega, ((row_alloc w _ 4 f).alloc _).alloc _, ?_, ?_, (((Below.refl _ _).alloc (Nat.le_refl _) _).alloc (by simp) _).alloc (by simp; omega) _⟩
    · have h := zeros8_row 4 (w.alloc (.cells (bL 4 f).toArray 102)) _ 102 rfl
      rw [World.size_alloc] at h
      exact h.alloc _
    · have h := zeros8_row 4 ((w.alloc (.cells (bL 4 f).toArray 102)).alloc (.cells (List.replicate 4 (Value.int .u8 0)).toArray 102)) _ 102 rfl
      rw [World.size_alloc, World.size_alloc] at h
      exact h
  case round =>
    obtain ⟨m, h, hm, rfl, hh, r0, r1, r2, hbl⟩ := hrel
    by_cases hlt : m < 4
    · obtain ⟨s1, es1⟩ : ∃ x, x = m + 1 := ⟨_, rfl⟩
      obtain ⟨q, eq⟩ : ∃ x, x = (m + 1) % 4 := ⟨_, rfl⟩
      have t1 : (s1 : Int) % 4 = (q : Int) := by rw [eq, es1]; exact (Int.natCast_emod _ _).symm
      have hq : q < 4 := by rw [eq]; exact Nat.mod_lt _ (by decide)
      have hq' : (q : Int) < 4 := by omega
      have hm' : (m : Int) < 4 := by omega
      have l1 : (s1 : Int) ≤ 8 := by omega
      have m1 : IntKind.i64.wrap ((m : Int) + 1) = (s1 : Int) := w_add (b := 1) es1.symm (by omega)
      have tt1 : (s1 : Int).tmod 4 = (q : Int) := by rw [Int.tmod_eq_emod_of_nonneg (by omega)]; exact t1
      have w1 : IntKind.i64.wrap (q : Int) = (q : Int) := by simp only [IntKind.wrap_i64]; omega
      have HV := hide (show sbox (f ((m + 1) % 4)).toNat = sbox (f q).toNat by rw [eq])
      have cq := r0.cell (i := q) hq
      unfold u8V at cq
      have ho := r2.cell (i := m) hlt
      have hz := r2.frozen m
      have hA8 := (f q).toNat_lt
      have ct : wr.cell? ⟨g, (f q).toNat, none⟩ = some (.int .u8 ((sbox (f q).toNat).toNat : Int)) := (hbl.cell (p := ⟨g, (f q).toNat, none⟩) hg).trans (HT.out _ hA8)
      generalize hY : sbox (f q).toNat = Y at *
      generalize hA : f q = A at *
      have hA' : (A.toNat : Int) < 256 := by omega
      clear es1 eq hY hA
      go_wp2_with fail
      go_region_held3 (fun w' => w'.cell? ⟨w.heap.size, q, none⟩ = some (.int .u8 (A.toNat : Int)) ∧ w'.cell? ⟨g, A.toNat, none⟩ = some (.int .u8 (Y.toNat : Int))) (first | exact ⟨cell_far (by omega) cq, cell_far (by omega) ct⟩ | go_keep) (fail)
      rename_i _ hH
      clear hH t1 tt1 m1 w1 cq ct ho hz hA8 hA' hq'
      go_wp2_with fail
      go_roundw
      case rel =>
        refine ⟨m + 1, fun j => if j = m then Y else h j, by omega, by go_num, fun j hj => ?_, (r0.setOther (by simp; omega) _).drew, (r1.setOther (by simp) _).drew, (set_byte r2 rfl).drew, (hbl.setCell (by simp; omega) _).drew⟩
        show (if j = m then Y else h j) = _
        by_cases e : j = m
        · rw [if_pos e, e, HV.out]
        · rw [if_neg e]; exact hh.out j (by omega)
      case measure => simp [intOf]; omega
    · have c0 := r2.cell (i := 0) (by omega)
      have z0 := r2.frozen 0
      unfold u8V at c0
      have hx := r_xor8 (h 0) P
      obtain ⟨Y, hY⟩ : ∃ Y, Y = h 0 ^^^ P := ⟨_, rfl⟩
      rw [← hY] at hx
      have HY := hide (show Y = mxF f P 0 by rw [hY, hh.out 0 (by omega)]; rfl)
      have HH := hide (show ∀ j, j < 4 → j ≠ 0 → h j = mxF f P j from fun j hj h0 => by rw [hh.out j (by omega), mxF, if_neg h0, UInt8.xor_zero])
      have r2' : (wr.setCell ⟨w.heap.size + 2, 0, none⟩ (.int .u8 (Y.toNat : Int))).rowIs (w.heap.size + 2) 102 4 (u8V (mxF f P)) := (set_byte (Y := Y) r2 rfl).congr fun i hi => by
        rw [u8V, u8V]
        by_cases e : i = 0
        · rw [if_pos e, HY.out, e]
        · rw [if_neg e, HH.out i hi e]
      have r1' : (wr.setCell ⟨w.heap.size + 2, 0, none⟩ (.int .u8 (Y.toNat : Int))).rowIs (w.heap.size + 1) 102 4 (u8V fun _ => 0) := r1.setOther (by simp) _
      have hbl' : Below w.heap.size w (wr.setCell ⟨w.heap.size + 2, 0, none⟩ (.int .u8 (Y.toNat : Int))) := hbl.setCell (by simp) _
      have hth := row_there (o := 0) (n := 4) r1' (by omega)
      have hfin := row_setCells0 (k := mxF f P) r1'
      generalize h 0 = A at *
      clear hh r2 hY HY HH
      go_wp2_with (first | (refine wpList_load_B rfl 102 _ rfl (w.heap.size + 2) 0 rfl _ _ 4 _ (mxF f P) _ r2' (by omega) (fun j _ => by rw [Nat.zero_add]) Tryz.underlying102 rfl Tryz.size4m ?_) | (refine wpList_store_B rfl 102 _ _ rfl (w.heap.size + 1) 0 4 (mxF f P) rfl rfl hth Tryz.size4m ?_))
      exact bodyPost_ret (ret_B Tryz.results109 _ _ (w.heap.size + 1) 4 _ _ _ rfl hfin Tryz.underlying102 rfl Tryz.size4m) rfl ⟨rfl, below_setCells' hbl' (by omega)⟩
end Go.Proofs.YtconcnndghmdfaaGreatDoor
namespace Go.Proofs.YtconcnndghmdfaaGreatDoor
open Go.RowKit
theorem times2 : ∀ x : Fin 256, times x.1 2 = dbl x.1 := by decide +kernel
theorem times3 : ∀ x : Fin 256, times x.1 3 = x.1 ^^^ dbl x.1 := by decide +kernel
/-- A byte doubled. -/
def dU (a : UInt8) : UInt8 := UInt8.ofNat (dbl a.toNat)
theorem dU_toNat (a : UInt8) : (dU a).toNat = dbl a.toNat := ofNat_toNat _ (dbl_lt _ a.toNat_lt)
theorem mul2 (a : UInt8) : mul a 2 = dU a := by unfold mul dU; rw [times2 ⟨a.toNat, a.toNat_lt⟩]
theorem mul3 (a : UInt8) : mul a 3 = a ^^^ dU a := by
  apply UInt8.toNat_inj.1
  rw [mul_toNat, times3 ⟨a.toNat, a.toNat_lt⟩, UInt8.toNat_xor, dU_toNat]
theorem imp_doubledU (a : UInt8) (w : World) :
    Calls Tryz.prog 110 #[.int .u8 (a.toNat : Int)] w fun e w' => e = .returned (.int .u8 ((dU a).toNat : Int)) ∧ w = w' := by
  rw [dU_toNat]; exact imp_doubled a.toNat w a.toNat_lt
attribute [local irreducible] times sbox dbl dU
def colF (f : Nat → UInt8) (i : Nat) : UInt8 := dU (f i) ^^^ dU (f ((i + 1) % 4)) ^^^ f ((i + 1) % 4) ^^^ f ((i + 2) % 4) ^^^ f ((i + 3) % 4)
theorem colF_mix (f k : Nat → UInt8) (c r : Nat) (hr : r < 4) (hk : ∀ j, j < 4 → k j = f (4 * c + j)) : colF k r = mixB f c r := by
  unfold colF mixB
  rw [hk r hr, hk _ (Nat.mod_lt _ (by decide)), hk _ (Nat.mod_lt _ (by decide)), hk _ (Nat.mod_lt _ (by decide)), mul2, mul3]
  generalize f (4 * c + (r + 1) % 4) = b
  rw [UInt8.xor_assoc (dU (f (4 * c + r))) (dU b) b, UInt8.xor_comm (dU b) b]
theorem Tryz.size4 : (Tryz.prog.info? 102).map (·.size) = some 4 := by kernel_rfl
set_option maxRecDepth 100000 in
set_option maxHeartbeats 1600000 in
theorem imp_columnMixed (f : Nat → UInt8) (w : World) :
    Calls Tryz.prog 111 #[.agg (bL 4 f).toArray] w fun e w' => e = .returned (.agg (bL 4 (colF f)).toArray) ∧ Below w.heap.size w w' := by
  go_enter Tryz.func111, Tryz.ntmps111
  go_wp2_with fail
  go_loopw [9] (fun i wx => ∃ (m : Nat) (h : Nat → UInt8), m ≤ 4 ∧ i = .int .i64 m ∧ Hid (∀ j, j < m → h j = colF f j) ∧ wx.rowIs w.heap.size 102 4 (u8V f) ∧ wx.rowIs (w.heap.size + 1) 102 4 (u8V fun _ => 0) ∧ wx.rowIs (w.heap.size + 2) 102 4 (u8V h) ∧ Below w.heap.size w wx) (fun i _ => 4 - (intOf i).toNat)
  case atStart =>
    refine ⟨0, fun _ => 0, by omega, rfl, fun j hj => by omega, ((row_alloc w _ 4 f).alloc _).alloc _, ?_, ?_, (((Below.refl _ _).alloc (Nat.le_refl _) _).alloc (by simp) _).alloc (by simp; omega) _⟩
    · have h := zeros8_row 4 (w.alloc (.cells (bL 4 f).toArray 102)) _ 102 rfl
      rw [World.size_alloc] at h
      exact h.alloc _
    · have h := zeros8_row 4 ((w.alloc (.cells (bL 4 f).toArray 102)).alloc (.cells (List.replicate 4 (Value.int .u8 0)).toArray 102)) _ 102 rfl
      rw [World.size_alloc, World.size_alloc] at h
      exact h
  case round =>
    obtain ⟨m, h, hm, rfl, hh, r0, r1, r2, hbl⟩ := hrel
    by_cases hlt : m < 4
    · obtain ⟨i1, ei1⟩ : ∃ q, q = (m + 1) % 4 := ⟨_, rfl⟩
      obtain ⟨i2, ei2⟩ : ∃ q, q = (m + 2) % 4 := ⟨_, rfl⟩
      obtain ⟨i3, ei3⟩ : ∃ q, q = (m + 3) % 4 := ⟨_, rfl⟩
      obtain ⟨s1, es1⟩ : ∃ q, q = m + 1 := ⟨_, rfl⟩
      obtain ⟨s2, es2⟩ : ∃ q, q = m + 2 := ⟨_, rfl⟩
      obtain ⟨s3, es3⟩ : ∃ q, q = m + 3 := ⟨_, rfl⟩
      have t1 : (s1 : Int) % 4 = (i1 : Int) := by rw [ei1, es1]; exact (Int.natCast_emod _ _).symm
      have t2 : (s2 : Int) % 4 = (i2 : Int) := by rw [ei2, es2]; exact (Int.natCast_emod _ _).symm
      have t3 : (s3 : Int) % 4 = (i3 : Int) := by rw [ei3, es3]; exact (Int.natCast_emod _ _).symm
      have b1 : i1 < 4 := by rw [ei1]; exact Nat.mod_lt _ (by decide)
      have b2 : i2 < 4 := by rw [ei2]; exact Nat.mod_lt _ (by decide)
      have b3 : i3 < 4 := by rw [ei3]; exact Nat.mod_lt _ (by decide)
      have HV := hide (show colF f m = dU (f m) ^^^ dU (f i1) ^^^ f i1 ^^^ f i2 ^^^ f i3 by rw [colF, ← ei1, ← ei2, ← ei3])
      have c0 := r0.cell (i := m) hlt
      have c1 := r0.cell (i := i1) b1
      have c2 := r0.cell (i := i2) b2
      have c3 := r0.cell (i := i3) b3
      have co := r2.cell (i := m) hlt
      have hz := r2.frozen m
      have hm' : (m : Int) < 4 := by omega
      have n1 : (i1 : Int) < 4 := by omega
      have n2 : (i2 : Int) < 4 := by omega
      have n3 : (i3 : Int) < 4 := by omega
      have l1 : (s1 : Int) ≤ 8 := by omega
      have l2 : (s2 : Int) ≤ 8 := by omega
      have l3 : (s3 : Int) ≤ 8 := by omega
      have m1 : IntKind.i64.wrap ((m : Int) + 1) = (s1 : Int) := w_add (b := 1) es1.symm (by omega)
      have m2 : IntKind.i64.wrap ((m : Int) + 2) = (s2 : Int) := w_add (b := 2) es2.symm (by omega)
      have m3 : IntKind.i64.wrap ((m : Int) + 3) = (s3 : Int) := w_add (b := 3) es3.symm (by omega)
      have tt1 : (s1 : Int).tmod 4 = (i1 : Int) := by rw [Int.tmod_eq_emod_of_nonneg (by omega)]; exact t1
      have tt2 : (s2 : Int).tmod 4 = (i2 : Int) := by rw [Int.tmod_eq_emod_of_nonneg (by omega)]; exact t2
      have tt3 : (s3 : Int).tmod 4 = (i3 : Int) := by rw [Int.tmod_eq_emod_of_nonneg (by omega)]; exact t3
      have w1 : IntKind.i64.wrap (i1 : Int) = (i1 : Int) := by simp only [IntKind.wrap_i64]; omega
      have w2 : IntKind.i64.wrap (i2 : Int) = (i2 : Int) := by simp only [IntKind.wrap_i64]; omega
      have w3 : IntKind.i64.wrap (i3 : Int) = (i3 : Int) := by simp only [IntKind.wrap_i64]; omega
      unfold u8V at c0 c1 c2 c3
      generalize f m = A0 at *
      generalize f i1 = A1 at *
      generalize f i2 = A2 at *
      generalize f i3 = A3 at *
      have x1 := r_xor8 (dU A0) (dU A1)
      have x2 := r_xor8 (dU A0 ^^^ dU A1) A1
      have x3 := r_xor8 (dU A0 ^^^ dU A1 ^^^ A1) A2
      have x4 := r_xor8 (dU A0 ^^^ dU A1 ^^^ A1 ^^^ A2) A3
      have S0 := hide (fun w => imp_doubledU A0 w)
      have S1 := hide (fun w => imp_doubledU A1 w)
      obtain ⟨D0, hD0⟩ : ∃ D, D = dU A0 := ⟨_, rfl⟩
      obtain ⟨D1, hD1⟩ : ∃ D, D = dU A1 := ⟨_, rfl⟩
      rw [← hD0] at x1 x2 x3 x4 S0 HV
      rw [← hD1] at x1 x2 x3 x4 S1 HV
      obtain ⟨E1, hE1⟩ : ∃ D, D = D0 ^^^ D1 := ⟨_, rfl⟩
      rw [← hE1] at x1 x2 x3 x4 HV
      obtain ⟨E2, hE2⟩ : ∃ D, D = E1 ^^^ A1 := ⟨_, rfl⟩
      rw [← hE2] at x2 x3 x4 HV
      obtain ⟨E3, hE3⟩ : ∃ D, D = E2 ^^^ A2 := ⟨_, rfl⟩
      rw [← hE3] at x3 x4 HV
      obtain ⟨E4, hE4⟩ : ∃ D, D = E3 ^^^ A3 := ⟨_, rfl⟩
      rw [← hE4] at x4 HV
      clear ei1 ei2 ei3 es1 es2 es3 hD0 hD1 hE1 hE2 hE3 hE4 b1 b2 b3
      go_wp2_with fail
      go_quiet (fail)
      clear t1 t2 t3 tt1 tt2 tt3 m1 m2 m3 w1 w2 w3 c0 c1 c2 c3 n1 n2 n3 l1 l2 l3
      go_wp2_with (first | (go_at_call_of 110 A0; refine (S0.out _).mono ?_; rintro e w' ⟨rfl, rfl⟩) | (go_at_call_of 110 A1; refine (S1.out _).mono ?_; rintro e w' ⟨rfl, rfl⟩))
      go_roundw
      case rel =>
        refine ⟨m + 1, fun j => if j = m then E4 else h j, by omega, by go_num, fun j hj => ?_, r0.setOther (by simp; omega) _, r1.setOther (by simp) _, set_byte r2 rfl, (show Below w.heap.size w (wr.drewN nq) from ⟨hbl.os, hbl.tape, hbl.output, hbl.size, hbl.block⟩).setCell (by simp; omega) _⟩
        show (if j = m then E4 else h j) = _
        by_cases e : j = m
        · rw [if_pos e, e, HV.out]
        · rw [if_neg e]; exact hh.out j (by omega)
      case measure => simp [intOf]; omega
    · have r2' : wr.rowIs (w.heap.size + 2) 102 4 (u8V (colF f)) := r2.congr fun i hi => by rw [u8V, u8V, hh.out i (by omega)]
      have hth := row_there (o := 0) (n := 4) r1 (by omega)
      have hfin := row_setCells0 (k := colF f) r1
      clear hh r2
      go_wp2_with (first | (refine wpList_load_B rfl 102 _ rfl (w.heap.size + 2) 0 rfl _ _ 4 _ (colF f) _ r2' (by omega) (fun j _ => by rw [Nat.zero_add]) Tryz.underlying102 rfl Tryz.size4 ?_) | (refine wpList_store_B rfl 102 _ _ rfl (w.heap.size + 1) 0 4 (colF f) rfl rfl hth Tryz.size4 ?_))
      exact bodyPost_ret (ret_B Tryz.results111 _ _ (w.heap.size + 1) 4 _ _ _ rfl hfin Tryz.underlying102 rfl Tryz.size4) rfl ⟨rfl, below_setCells' hbl (by omega)⟩
end Go.Proofs.YtconcnndghmdfaaGreatDoor
