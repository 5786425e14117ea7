/- The walk over the program's mixed. -/
import Derived.Test.YtgbbfdcfiofneaaImpAdd16
namespace Go.Proofs.Ytgbbfdcfiofneaa
open Go.RowKit
attribute [local irreducible] times sbox
theorem Try.size4m : (Try.prog.info? 68).map (·.size) = some 4 := by kernel_rfl
def mxF (f : Nat → UInt8) (P : UInt8) (j : Nat) : UInt8 := sbox (f ((j + 1) % 4)).toNat ^^^ (if j = 0 then P else 0)
set_option maxRecDepth 100000 in
set_option maxHeartbeats 800000 in
theorem imp_mixed (g : Nat) (f : Nat → UInt8) (P : UInt8) (w : World) (hg : g < w.heap.size) (ht : ∀ j, j < 256 → w.cell? ⟨g, j, none⟩ = some (.int .u8 ((sbox j).toNat : Int))) :
    Calls Try.prog 48 #[.pointer (some ⟨g, 0, none⟩), .agg (bL 4 f).toArray, .int .u8 (P.toNat : Int)] w fun e w' => e = .returned (.agg (bL 4 (mxF f P)).toArray) ∧ Below w.heap.size w w' := by
  have HT := hide ht
  clear ht
  go_enter Try.func48, Try.ntmps48
  go_wp2_with fail
  go_loopw [9] (fun i wx => ∃ (m : Nat) (h : Nat → UInt8), m ≤ 4 ∧ i = .int .i64 m ∧ Hid (∀ j, j < m → h j = sbox (f ((j + 1) % 4)).toNat) ∧ wx.rowIs w.heap.size 68 4 (u8V f) ∧ wx.rowIs (w.heap.size + 1) 68 4 (u8V fun _ => 0) ∧ wx.rowIs (w.heap.size + 2) 68 4 (u8V h) ∧ Below w.heap.size w wx) (fun i _ => 4 - (intOf i).toNat)
  case atStart =>
    refine ⟨0, fun _ => 0, by omega, rfl, fun j hj => by omega, ((row_alloc w _ 4 f).alloc _).alloc _, ?_, ?_, (((Below.refl _ _).alloc (Nat.le_refl _) _).alloc (by simp) _).alloc (by simp; omega) _⟩
    · have h := zeros8_row 4 (w.alloc (.cells (bL 4 f).toArray 68)) _ 68 rfl
      rw [World.size_alloc] at h
      exact h.alloc _
    · have h := zeros8_row 4 ((w.alloc (.cells (bL 4 f).toArray 68)).alloc (.cells (List.replicate 4 (Value.int .u8 0)).toArray 68)) _ 68 rfl
      rw [World.size_alloc, World.size_alloc] at h
      exact h
  case round =>
    obtain ⟨m, h, hm, rfl, hh, r0, r1, r2, hbl⟩ := hrel
    by_cases hlt : m < 4
    · obtain ⟨s1, es1⟩ : ∃ x, x = m + 1 := ⟨_, rfl⟩
      obtain ⟨q, eq⟩ : ∃ x, x = (m + 1) % 4 := ⟨_, rfl⟩
      have t1 : (s1 : Int) % 4 = (q : Int) := by rw [eq, es1]; exact (Int.natCast_emod _ _).symm
      have hq : q < 4 := by rw [eq]; exact Nat.mod_lt _ (by decide)
      have hq' : (q : Int) < 4 := by omega
      have hm' : (m : Int) < 4 := by omega
      have l1 : (s1 : Int) ≤ 8 := by omega
      have m1 : IntKind.i64.wrap ((m : Int) + 1) = (s1 : Int) := w_add (b := 1) es1.symm (by omega)
      have tt1 : (s1 : Int).tmod 4 = (q : Int) := by rw [Int.tmod_eq_emod_of_nonneg (by omega)]; exact t1
      have w1 : IntKind.i64.wrap (q : Int) = (q : Int) := by simp only [IntKind.wrap_i64]; omega
      have HV := hide (show sbox (f ((m + 1) % 4)).toNat = sbox (f q).toNat by rw [eq])
      have cq := r0.cell (i := q) hq
      unfold u8V at cq
      have ho := r2.cell (i := m) hlt
      have hz := r2.frozen m
      have hA8 := (f q).toNat_lt
      have ct : wr.cell? ⟨g, (f q).toNat, none⟩ = some (.int .u8 ((sbox (f q).toNat).toNat : Int)) := (hbl.cell (p := ⟨g, (f q).toNat, none⟩) hg).trans (HT.out _ hA8)
      generalize hY : sbox (f q).toNat = Y at *
      generalize hA : f q = A at *
      have hA' : (A.toNat : Int) < 256 := by omega
      clear es1 eq hY hA
      go_wp2_with fail
      go_region_held3 (fun w' => w'.cell? ⟨w.heap.size, q, none⟩ = some (.int .u8 (A.toNat : Int)) ∧ w'.cell? ⟨g, A.toNat, none⟩ = some (.int .u8 (Y.toNat : Int))) (first | exact ⟨cell_far (by omega) cq, cell_far (by omega) ct⟩ | go_keep) (fail)
      rename_i _ hH
      clear hH t1 tt1 m1 w1 cq ct ho hz hA8 hA' hq'
      go_wp2_with fail
      go_roundw
      case rel =>
        refine ⟨m + 1, fun j => if j = m then Y else h j, by omega, by go_num, fun j hj => ?_, (r0.setOther (by simp; omega) _).drew, (r1.setOther (by simp) _).drew, (set_byte r2 rfl).drew, (hbl.setCell (by simp; omega) _).drew⟩
        show (if j = m then Y else h j) = _
        by_cases e : j = m
        · rw [if_pos e, e, HV.out]
        · rw [if_neg e]; exact hh.out j (by omega)
      case measure => simp [intOf]; omega
    · have c0 := r2.cell (i := 0) (by omega)
      have z0 := r2.frozen 0
      unfold u8V at c0
      have hx := r_xor8 (h 0) P
      obtain ⟨Y, hY⟩ : ∃ Y, Y = h 0 ^^^ P := ⟨_, rfl⟩
      rw [← hY] at hx
      have HY := hide (show Y = mxF f P 0 by rw [hY, hh.out 0 (by omega)]; rfl)
      have HH := hide (show ∀ j, j < 4 → j ≠ 0 → h j = mxF f P j from fun j hj h0 => by rw [hh.out j (by omega), mxF, if_neg h0, UInt8.xor_zero])
      have r2' : (wr.setCell ⟨w.heap.size + 2, 0, none⟩ (.int .u8 (Y.toNat : Int))).rowIs (w.heap.size + 2) 68 4 (u8V (mxF f P)) := (set_byte (Y := Y) r2 rfl).congr fun i hi => by
        rw [u8V, u8V]
        by_cases e : i = 0
        · rw [if_pos e, HY.out, e]
        · rw [if_neg e, HH.out i hi e]
      have r1' : (wr.setCell ⟨w.heap.size + 2, 0, none⟩ (.int .u8 (Y.toNat : Int))).rowIs (w.heap.size + 1) 68 4 (u8V fun _ => 0) := r1.setOther (by simp) _
      have hbl' : Below w.heap.size w (wr.setCell ⟨w.heap.size + 2, 0, none⟩ (.int .u8 (Y.toNat : Int))) := hbl.setCell (by simp) _
      have hth := row_there (o := 0) (n := 4) r1' (by omega)
      have hfin := row_setCells0 (k := mxF f P) r1'
      generalize h 0 = A at *
      clear hh r2 hY HY HH
      go_wp2_with (first | (refine wpList_load_B rfl 68 _ rfl (w.heap.size + 2) 0 rfl _ _ 4 _ (mxF f P) _ r2' (by omega) (fun j _ => by rw [Nat.zero_add]) Try.underlying68 rfl Try.size4m ?_) | (refine wpList_store_B rfl 68 _ _ rfl (w.heap.size + 1) 0 4 (mxF f P) rfl rfl hth Try.size4m ?_))
      exact bodyPost_ret (ret_B Try.results48 _ _ (w.heap.size + 1) 4 _ _ _ rfl hfin Try.underlying68 rfl Try.size4m) rfl ⟨rfl, below_setCells' hbl' (by omega)⟩
end Go.Proofs.Ytgbbfdcfiofneaa
