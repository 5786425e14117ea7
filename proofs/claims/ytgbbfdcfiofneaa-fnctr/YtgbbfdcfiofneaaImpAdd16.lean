/- The walks over the program's added, shifted. -/
import Derived.Test.YtgbbfdcfiofneaaImpTab
import Derived.Test.YtgbbfdcfiofneaaAesE
namespace Go.Proofs.Ytgbbfdcfiofneaa
open Go.RowKit
attribute [local irreducible] times sbox
theorem Try.size16 : (Try.prog.info? 48).map (·.size) = some 16 := by kernel_rfl
set_option maxRecDepth 100000 in
set_option maxHeartbeats 800000 in
theorem imp_added (f k : Nat → UInt8) (w : World) :
    Calls Try.prog 31 #[.agg (bL 16 f).toArray, .agg (bL 16 k).toArray] w fun e w' => e = .returned (.agg (bL 16 fun j => f j ^^^ k j).toArray) ∧ Below w.heap.size w w' := by
  go_enter Try.func31, Try.ntmps31
  go_wp2_with fail
  go_loopw [6] (fun i wx => ∃ (m : Nat) (h : Nat → UInt8), m ≤ 16 ∧ i = .int .i64 m ∧ Hid (∀ j, j < 16 → h j = if j < m then f j ^^^ k j else f j) ∧ wx.rowIs w.heap.size 48 16 (u8V h) ∧ wx.rowIs (w.heap.size + 1) 48 16 (u8V k) ∧ wx.rowIs (w.heap.size + 2) 48 16 (u8V fun _ => 0) ∧ Below w.heap.size w wx) (fun i _ => 16 - (intOf i).toNat)
  case atStart =>
    refine ⟨0, f, by omega, rfl, fun j _ => by simp, ((row_alloc w _ 16 f).alloc _).alloc _, ?_, ?_, (((Below.refl _ _).alloc (Nat.le_refl _) _).alloc (by simp) _).alloc (by simp; omega) _⟩
    · have h := row_alloc (w.alloc (.cells (bL 16 f).toArray 48)) 48 16 k
      rw [World.size_alloc] at h
      exact h.alloc _
    · have h := zeros8_row 16 ((w.alloc (.cells (bL 16 f).toArray 48)).alloc (.cells (bL 16 k).toArray 48)) _ 48 rfl
      rw [World.size_alloc, World.size_alloc] at h
      exact h
  case round =>
    obtain ⟨m, h, hm, rfl, hh, r0, r1, r2, hbl⟩ := hrel
    by_cases hlt : m < 16
    · have c0 := r0.cell (i := m) hlt
      have c1 := r1.cell (i := m) hlt
      have z0 := r0.frozen m
      have hx := r_xor8 (h m) (k m)
      obtain ⟨Z, hZ⟩ : ∃ Z, Z = f m ^^^ k m := ⟨_, rfl⟩
      have HV := hide (show h m ^^^ k m = Z by rw [hh.out m hlt, if_neg (by omega), hZ])
      have HZ := hide hZ
      clear hZ
      obtain ⟨Y, hY⟩ : ∃ Y, Y = h m ^^^ k m := ⟨_, rfl⟩
      rw [← hY] at hx HV
      have hm' : (m : Int) < 16 := by omega
      unfold u8V at c0 c1
      generalize hA : h m = A at *
      generalize hB : k m = B at c1 hx hY HV
      clear hA hB hY
      go_wp2_with fail
      go_region
      clear c0 c1 z0 hx
      go_wp2_with fail
      go_roundw
      case rel =>
        refine ⟨m + 1, fun j => if j = m then Y else h j, by omega, by go_num, fun j hj => ?_, (set_byte r0 rfl).drew, (r1.setOther (by simp) _).drew, (r2.setOther (by simp) _).drew, (hbl.setCell (Nat.le_refl _) _).drew⟩
        show (if j = m then Y else h j) = _
        by_cases e : j = m
        · rw [if_pos e, if_pos (by omega), HV.out, e, HZ.out]
        · rw [if_neg e, hh.out j hj]
          by_cases e2 : j < m
          · rw [if_pos e2, if_pos (by omega)]
          · rw [if_neg e2, if_neg (by omega)]
      case measure => simp [intOf]; omega
    · have r0' : wr.rowIs w.heap.size 48 16 (u8V fun j => f j ^^^ k j) := r0.congr fun i hi => by rw [u8V, u8V, hh.out i hi, if_pos (by omega)]
      have hth := row_there (o := 0) (n := 16) r2 (by omega)
      have hfin := row_setCells0 (k := fun j => f j ^^^ k j) r2
      clear hh r0
      go_wp2_with (first | (refine wpList_load_B rfl 48 _ rfl w.heap.size 0 rfl _ _ 16 _ (fun j => f j ^^^ k j) _ r0' (by omega) (fun j _ => by rw [Nat.zero_add]) Try.underlying48 rfl Try.size16 ?_) | (refine wpList_store_B rfl 48 _ _ rfl (w.heap.size + 2) 0 16 (fun j => f j ^^^ k j) rfl rfl hth Try.size16 ?_))
      exact bodyPost_ret (ret_B Try.results31 _ _ (w.heap.size + 2) 16 _ _ _ rfl hfin Try.underlying48 rfl Try.size16) rfl ⟨rfl, below_setCells' hbl (by omega)⟩
set_option maxRecDepth 100000 in
set_option maxHeartbeats 800000 in
theorem imp_shifted (g : Nat) (f : Nat → UInt8) (w : World) (hg : g < w.heap.size) (ht : ∀ j, j < 256 → w.cell? ⟨g, j, none⟩ = some (.int .u8 ((sbox j).toNat : Int))) :
    Calls Try.prog 42 #[.pointer (some ⟨g, 0, none⟩), .agg (bL 16 f).toArray] w fun e w' => e = .returned (.agg (bL 16 (subF f)).toArray) ∧ Below w.heap.size w w' := by
  have HT := hide ht
  clear ht
  go_enter Try.func42, Try.ntmps42
  go_wp2_with fail
  go_loopw [10] (fun i wx => ∃ (m : Nat) (h : Nat → UInt8), m ≤ 16 ∧ i = .int .i64 m ∧ Hid (∀ j, j < m → h j = subF f j) ∧ wx.rowIs w.heap.size 48 16 (u8V f) ∧ wx.rowIs (w.heap.size + 1) 48 16 (u8V fun _ => 0) ∧ wx.rowIs (w.heap.size + 2) 48 16 (u8V h) ∧ Below w.heap.size w wx) (fun i _ => 16 - (intOf i).toNat)
  case atStart =>
    refine ⟨0, fun _ => 0, by omega, rfl, fun j hj => by omega, ((row_alloc w _ 16 f).alloc _).alloc _, ?_, ?_, (((Below.refl _ _).alloc (Nat.le_refl _) _).alloc (by simp) _).alloc (by simp; omega) _⟩
    · have h := zeros8_row 16 (w.alloc (.cells (bL 16 f).toArray 48)) _ 48 rfl
      rw [World.size_alloc] at h
      exact h.alloc _
    · have h := zeros8_row 16 ((w.alloc (.cells (bL 16 f).toArray 48)).alloc (.cells (List.replicate 16 (Value.int .u8 0)).toArray 48)) _ 48 rfl
      rw [World.size_alloc, World.size_alloc] at h
      exact h
  case round =>
    obtain ⟨m, h, hm, rfl, hh, r0, r1, r2, hbl⟩ := hrel
    by_cases hlt : m < 16
    · obtain ⟨c, ec⟩ : ∃ c, c = m / 4 := ⟨_, rfl⟩
      obtain ⟨r, er⟩ : ∃ c, c = m % 4 := ⟨_, rfl⟩
      obtain ⟨s, es⟩ : ∃ x, x = (c + r) % 4 := ⟨_, rfl⟩
      obtain ⟨q, eq⟩ : ∃ x, x = 4 * s + r := ⟨_, rfl⟩
      have t1 : (m : Int) / 4 = (c : Int) := by omega
      have t2 : (m : Int) % 4 = (r : Int) := by omega
      have t3 : ((c : Int) + (r : Int)) % 4 = (s : Int) := by omega
      have t4 : 4 * (s : Int) + (r : Int) = (q : Int) := by omega
      have hc4 : (c : Int) ≤ 3 := by omega
      have hr4 : (r : Int) ≤ 3 := by omega
      have hs4 : (s : Int) ≤ 3 := by omega
      have hq : q < 16 := by omega
      have hq' : (q : Int) < 16 := by omega
      have hm' : (m : Int) < 16 := by omega
      have HV := hide (show subF f m = sbox (f q).toNat by rw [subF, subB, ← ec, ← er, ← es, ← eq])
      have cq := r0.cell (i := q) hq
      unfold u8V at cq
      have ho := r2.cell (i := m) hlt
      have hz := r2.frozen m
      have hA8 := (f q).toNat_lt
      have ct : wr.cell? ⟨g, (f q).toNat, none⟩ = some (.int .u8 ((sbox (f q).toNat).toNat : Int)) := (hbl.cell (p := ⟨g, (f q).toNat, none⟩) hg).trans (HT.out _ hA8)
      generalize hY : sbox (f q).toNat = Y at *
      generalize hA : f q = A at *
      have hA' : (A.toNat : Int) < 256 := by omega
      have HE := hide (And.intro ec (And.intro er (And.intro es eq)))
      clear ec er es eq hY hA
      go_wp2_with fail
      go_region_held3 (fun w' => w'.cell? ⟨w.heap.size, q, none⟩ = some (.int .u8 (A.toNat : Int)) ∧ w'.cell? ⟨g, A.toNat, none⟩ = some (.int .u8 (Y.toNat : Int))) (first | exact ⟨cell_far (by omega) cq, cell_far (by omega) ct⟩ | go_keep) (fail)
      rename_i _ hH
      clear hH t1 t2 t3 t4 cq ct ho hz hA8 hA' hq'
      go_wp2_with fail
      go_roundw
      case rel =>
        refine ⟨m + 1, fun j => if j = m then Y else h j, by omega, by go_num, fun j hj => ?_, (r0.setOther (by simp; omega) _).drew, (r1.setOther (by simp) _).drew, (set_byte r2 rfl).drew, (hbl.setCell (by simp; omega) _).drew⟩
        show (if j = m then Y else h j) = _
        by_cases e : j = m
        · rw [if_pos e, e, HV.out]
        · rw [if_neg e]; exact hh.out j (by omega)
      case measure => simp [intOf]; omega
    · have r2' : wr.rowIs (w.heap.size + 2) 48 16 (u8V (subF f)) := r2.congr fun i hi => by rw [u8V, u8V, hh.out i (by omega)]
      have hth := row_there (o := 0) (n := 16) r1 (by omega)
      have hfin := row_setCells0 (k := subF f) r1
      clear hh r2
      go_wp2_with (first | (refine wpList_load_B rfl 48 _ rfl (w.heap.size + 2) 0 rfl _ _ 16 _ (subF f) _ r2' (by omega) (fun j _ => by rw [Nat.zero_add]) Try.underlying48 rfl Try.size16 ?_) | (refine wpList_store_B rfl 48 _ _ rfl (w.heap.size + 1) 0 16 (subF f) rfl rfl hth Try.size16 ?_))
      exact bodyPost_ret (ret_B Try.results42 _ _ (w.heap.size + 1) 16 _ _ _ rfl hfin Try.underlying48 rfl Try.size16) rfl ⟨rfl, below_setCells' hbl (by omega)⟩
end Go.Proofs.Ytgbbfdcfiofneaa
