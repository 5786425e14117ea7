/- The walk over the program's columns. -/
import Derived.Test.YtgbbfdcfiofneaaImpCol
namespace Go.Proofs.Ytgbbfdcfiofneaa
open Go.RowKit
attribute [local irreducible] times sbox dbl dU
set_option maxRecDepth 100000 in
set_option maxHeartbeats 1600000 in
theorem imp_columns (f : Nat → UInt8) (w : World) :
    Calls Try.prog 41 #[.agg (bL 16 f).toArray] w fun e w' => e = .returned (.agg (bL 16 (mixF f)).toArray) ∧ Below w.heap.size w w' := by
  go_enter Try.func41, Try.ntmps41
  go_wp2_with fail
  go_loopw [6] (fun i wx => ∃ (m : Nat) (h : Nat → UInt8), m ≤ 4 ∧ i = .int .i64 m ∧ Hid (∀ j, j < 4 * m → h j = mixF f j) ∧ wx.rowIs w.heap.size 48 16 (u8V f) ∧ wx.rowIs (w.heap.size + 1) 48 16 (u8V fun _ => 0) ∧ wx.rowIs (w.heap.size + 2) 48 16 (u8V h) ∧ Below w.heap.size w wx) (fun i _ => 4 - (intOf i).toNat)
  case atStart =>
    refine ⟨0, fun _ => 0, by omega, rfl, fun j hj => by omega, ((row_alloc w _ 16 f).alloc _).alloc _, ?_, ?_, (((Below.refl _ _).alloc (Nat.le_refl _) _).alloc (by simp) _).alloc (by simp; omega) _⟩
    · have h := zeros8_row 16 (w.alloc (.cells (bL 16 f).toArray 48)) _ 48 rfl
      rw [World.size_alloc] at h
      exact h.alloc _
    · have h := zeros8_row 16 ((w.alloc (.cells (bL 16 f).toArray 48)).alloc (.cells (List.replicate 16 (Value.int .u8 0)).toArray 48)) _ 48 rfl
      rw [World.size_alloc, World.size_alloc] at h
      exact h
  case round =>
    obtain ⟨m, h, hm, rfl, hh, r0, r1, r2, hbl⟩ := hrel
    by_cases hlt : m < 4
    · obtain ⟨q, eq⟩ : ∃ q, q = 4 * m := ⟨_, rfl⟩
      have w4 : IntKind.i64.wrap (4 * (m : Int)) = (q : Int) := w_mul (show 4 * m = q by omega) (by omega)
      have hq : (q : Int) ≤ 16 := by omega
      have hq2 : ¬ (16 : Int) < (q : Int) := by omega
      have hnc : ¬ 16 = q := by omega
      have HQ := hide eq
      have hlt12 : q ≤ 12 := by omega
      have hsz := hbl.size
      clear eq
      obtain ⟨k, hk⟩ : ∃ k : Nat → UInt8, k = fun j => f (q + j) := ⟨_, rfl⟩
      have HK := hide (show ∀ j, j < 4 → k j = f (q + j) from fun j _ => by rw [hk])
      have hg := r2.lt
      clear hk
      go_wp2_with fail
      obtain ⟨W1, hW1⟩ : ∃ x, x = wr.alloc (.cells #[Value.int .u8 0, Value.int .u8 0, Value.int .u8 0, Value.int .u8 0] 68) := ⟨_, rfl⟩
      have z4 : W1.rowIs wr.heap.size 68 4 (u8V fun _ => 0) := by rw [hW1]; exact zeros8_row 4 wr _ 68 rfl
      have s0 : W1.rowIs w.heap.size 48 16 (u8V f) := by rw [hW1]; exact r0.alloc _
      have s1 : W1.rowIs (w.heap.size + 1) 48 16 (u8V fun _ => 0) := by rw [hW1]; exact r1.alloc _
      have s2 : W1.rowIs (w.heap.size + 2) 48 16 (u8V h) := by rw [hW1]; exact r2.alloc _
      have sb : Below w.heap.size w W1 := by rw [hW1]; exact hbl.alloc hbl.size _
      have sz : W1.heap.size = wr.heap.size + 1 := by rw [hW1]; simp
      rw [← hW1]
      have SZ := hide sz
      clear hW1 r0 r1 r2 hbl sz
      have hmin := hide (show 4 = Nat.min (16 - q) 4 by show 4 = min (16 - q) 4; omega)
      have hrg := row_range (w := W1.drew) s0 (show q + 4 ≤ 16 by omega) HK.out
      have hth := row_there (w := W1.drew) z4 (show 0 + 4 ≤ 4 by omega)
      go_region_law (refine step_copy_B rfl _ _ 22 22 rfl 5 Try.underlying22 (by kernel_rfl) wr.heap.size 0 4 4 w.heap.size q (16 - q) (16 - q) rfl rfl 4 k hmin.out hrg hth ?_)
      have x4 : (W1.drew.setCells wr.heap.size 0 (bL 4 k)).rowIs wr.heap.size 68 4 (u8V k) := row_setCells0 z4.drew
      have x0 : (W1.drew.setCells wr.heap.size 0 (bL 4 k)).rowIs w.heap.size 48 16 (u8V f) := row_setCells_other s0.drew (by omega)
      have x1 : (W1.drew.setCells wr.heap.size 0 (bL 4 k)).rowIs (w.heap.size + 1) 48 16 (u8V fun _ => 0) := row_setCells_other s1.drew (by omega)
      have x2 : (W1.drew.setCells wr.heap.size 0 (bL 4 k)).rowIs (w.heap.size + 2) 48 16 (u8V h) := row_setCells_other s2.drew (by omega)
      have xb : Below w.heap.size w (W1.drew.setCells wr.heap.size 0 (bL 4 k)) := below_setCells' sb.drew hsz
      have xs : (W1.drew.setCells wr.heap.size 0 (bL 4 k)).heap.size = wr.heap.size + 1 := by rw [size_setCells]; exact SZ.out
      generalize W1.drew.setCells wr.heap.size 0 (bL 4 k) = W2 at *
      clear s0 s1 s2 sb SZ z4 hrg hth hmin
      have XS := hide xs
      clear xs
      go_wp2_with (first | (refine wpList_load_B rfl 68 _ rfl wr.heap.size 0 rfl _ _ 4 _ k _ x4 (Nat.le_refl _) (fun j _ => by rw [Nat.zero_add]) Try.underlying68 rfl Try.size4 ?_))
      refine (imp_columnMixed k W2).mono ?_
      rintro e W3 ⟨rfl, hb3⟩
      have y4 := x4.of_block (hb3.block _ x4.lt)
      have y0 := x0.of_block (hb3.block _ x0.lt)
      have y1 := x1.of_block (hb3.block _ x1.lt)
      have y2 := x2.of_block (hb3.block _ x2.lt)
      have yb := xb.trans (hb3.mono xb.size)
      have hg3 : w.heap.size + 2 < wr.heap.size := hg
      have hth := row_there (o := 0) (n := 4) y4 (by omega)
      obtain ⟨c, hc⟩ : ∃ c, c = colF k := ⟨_, rfl⟩
      rw [← hc]
      have HC := hide hc
      clear x4 x0 x1 x2 xb hb3 XS hc
      go_wp2_with (first | (refine wpList_store_B rfl 68 _ _ rfl wr.heap.size 0 4 c rfl rfl hth Try.size4 ?_))
      have x4 : (W3.setCells wr.heap.size 0 (bL 4 c)).rowIs wr.heap.size 68 4 (u8V c) := row_setCells0 y4
      have x0 : (W3.setCells wr.heap.size 0 (bL 4 c)).rowIs w.heap.size 48 16 (u8V f) := row_setCells_other y0 (by omega)
      have x1 : (W3.setCells wr.heap.size 0 (bL 4 c)).rowIs (w.heap.size + 1) 48 16 (u8V fun _ => 0) := row_setCells_other y1 (by omega)
      have x2 : (W3.setCells wr.heap.size 0 (bL 4 c)).rowIs (w.heap.size + 2) 48 16 (u8V h) := row_setCells_other y2 (by omega)
      have xb : Below w.heap.size w (W3.setCells wr.heap.size 0 (bL 4 c)) := below_setCells' yb hsz
      generalize W3.setCells wr.heap.size 0 (bL 4 c) = W4 at *
      clear y4 y0 y1 y2 yb hth
      have hmin := hide (show 4 = Nat.min 4 (16 - q) by show 4 = min 4 (16 - q); omega)
      have hrg := row_range0 (w := W4.drew) x4
      have hth := row_there (w := W4.drew) (o := q) (n := 4) x2 (by omega)
      go_region_law (refine step_copy_B rfl _ _ 22 22 rfl 5 Try.underlying22 (by kernel_rfl) (w.heap.size + 2) q (16 - q) (16 - q) wr.heap.size 0 4 4 rfl rfl 4 c hmin.out hrg hth ?_)
      clear hrg hth w4 hnc hmin
      go_wp2_with fail
      go_roundw
      case rel =>
        refine ⟨m + 1, _, by omega, by go_num, fun j hj => ?_, row_setCells_other x0.drew (by omega), row_setCells_other x1.drew (by omega), row_setCells x2.drew (by omega), below_setCells' xb.drew (by omega)⟩
        show (if q ≤ j ∧ j < q + 4 then c (j - q) else h j) = _
        have hQ := HQ.out
        by_cases e : q ≤ j ∧ j < q + 4
        · rw [if_pos e, HC.out, colF_mix f k m (j - q) (by omega) (fun i hi => by rw [HK.out i hi, hQ]), mixF, show j / 4 = m by omega, show j % 4 = j - q by omega]
        · rw [if_neg e]; exact hh.out j (by omega)
      case measure => simp [intOf]; omega
    · have r2' : wr.rowIs (w.heap.size + 2) 48 16 (u8V (mixF f)) := r2.congr fun i hi => by rw [u8V, u8V, hh.out i (by omega)]
      have hth := row_there (o := 0) (n := 16) r1 (by omega)
      have hfin := row_setCells0 (k := mixF f) r1
      clear hh r2
      go_wp2_with (first | (refine wpList_load_B rfl 48 _ rfl (w.heap.size + 2) 0 rfl _ _ 16 _ (mixF f) _ r2' (by omega) (fun j _ => by rw [Nat.zero_add]) Try.underlying48 rfl Try.size16 ?_) | (refine wpList_store_B rfl 48 _ _ rfl (w.heap.size + 1) 0 16 (mixF f) rfl rfl hth Try.size16 ?_))
      exact bodyPost_ret (ret_B Try.results41 _ _ (w.heap.size + 1) 16 _ _ _ rfl hfin Try.underlying48 rfl Try.size16) rfl ⟨rfl, below_setCells' hbl (by omega)⟩
end Go.Proofs.Ytgbbfdcfiofneaa
