/- Put together: ImpCols, ImpHid. -/
import Derived.Test.YtconcnndghmdfaaGreatDoorSe29
import Derived.Test.YtconcnndghmdfaaGreatDoorSe30
import Derived.Test.YtconcnndghmdfaaGreatDoorSe12
namespace Go.Proofs.YtconcnndghmdfaaGreatDoor
open Go.RowKit
attribute [local irreducible] times sbox dbl dU
set_option maxRecDepth 100000 in
set_option maxHeartbeats 1600000 in
theorem imp_columns (f : Nat → UInt8) (w : World) :
    Calls Tryz.prog 76 #[.agg (bL 16 f).toArray] w fun e w' => e = .returned (.agg (bL 16 (mixF f)).toArray) ∧ Below w.heap.size w w' := by
  go_enter Tryz.func76, Tryz.ntmps76
  go_wp2_with fail
  go_loopw [6] (fun i wx => ∃ (m : Nat) (h : Nat → UInt8), m ≤ 4 ∧ i = .int .i64 m ∧ Hid (∀ j, j < 4 * m → h j = mixF f j) ∧ wx.rowIs w.heap.size 70 16 (u8V f) ∧ wx.rowIs (w.heap.size + 1) 70 16 (u8V fun _ => 0) ∧ wx.rowIs (w.heap.size + 2) 70 16 (u8V h) ∧ Below w.heap.size w wx) (fun i _ => 4 - (intOf i).toNat)
  case atStart =>
    refine ⟨0, fun _ => 0, by omega, rfl, fun j hj => by omega, ((row_alloc w _ 16 f).alloc _).alloc _, ?_, ?_, (((Below.refl _ _).alloc (Nat.le_refl _) _).alloc (by simp) _).alloc (by simp; omega) _⟩
    · have h := zeros8_row 16 (w.alloc (.cells (bL 16 f).toArray 70)) _ 70 rfl
      rw [World.size_alloc] at h
      exact h.alloc _
    · have h := zeros8_row 16 ((w.alloc (.cells (bL 16 f).toArray 70)).alloc (.cells (List.replicate 16 (Value.int .u8 0)).toArray 70)) _ 70 rfl
      rw [World.size_alloc, World.size_alloc] at h
      exact h
  case round =>
    obtain ⟨m, h, hm, rfl, hh, r0, r1, r2, hbl⟩ := hrel
    by_cases hlt : m < 4
    · obtain ⟨q, eq⟩ : ∃ q, q = 4 * m := ⟨_, rfl⟩
      have w4 : IntKind.i64.wrap (4 * (m : Int)) = (q : Int) := w_mul (show 4 * m = q by omega) (by omega)
      have hq : (q : Int) ≤ 16 := by omega
      have hq2 : ¬ (16 : Int) < (q : Int) := by omega
      have hnc : ¬ 16 = q := by omega
      have HQ := hide eq
      have hlt12 : q ≤ 12 := by omega
      have hsz := hbl.size
      clear eq
      obtain ⟨k, hk⟩ : ∃ k : Nat → UInt8, k = fun j => f (q + j) := ⟨_, rfl⟩
      have HK := hide (show ∀ j, j < 4 → k j = f (q + j) from fun j _ => by rw [hk])
      have hg := r2.lt
      clear hk
      go_wp2_with fail
      obtain ⟨W1, hW1⟩ : ∃ x, x = wr.alloc (.cells #[Value.int .u8 0, Value.int .u8 0, Value.int .u8 0, Value.int .u8 0] 102) := ⟨_, rfl⟩
      have z4 : W1.rowIs wr.heap.size 102 4 (u8V fun _ => 0) := by rw [hW1]; exact zeros8_row 4 wr _ 102 rfl
      have s0 : W1.rowIs w.heap.size 70 16 (u8V f) := by rw [hW1]; exact r0.alloc _
      have s1 : W1.rowIs (w.heap.size + 1) 70 16 (u8V fun _ => 0) := by rw [hW1]; exact r1.alloc _
      have s2 : W1.rowIs (w.heap.size + 2) 70 16 (u8V h) := by rw [hW1]; exact r2.alloc _
      have sb : Below w.heap.size w W1 := by rw [hW1]; exact hbl.alloc hbl.size _
      have sz : W1.heap.size = wr.heap.size + 1 := by rw [hW1]; simp
      rw [← hW1]
      have SZ := hide sz
      clear hW1 r0 r1 r2 hbl sz
      have hmin := hide (show 4 = Nat.min (16 - q) 4 by show 4 = min (16 - q) 4; omega)
      have hrg := row_range (w := W1.drew) s0 (show q + 4 ≤ 16 by omega) HK.out
      have hth := row_there (w := W1.drew) z4 (show 0 + 4 ≤ 4 by omega)
      go_region_law (refine step_copy_B rfl _ _ 22 22 rfl 5 Tryz.underlying22 (by kernel_rfl) wr.heap.size 0 4 4 w.heap.size q (16 - q) (16 - q) rfl rfl 4 k hmin.out hrg hth ?_)
      have x4 : (W1.drew.setCells wr.heap.size 0 (bL 4 k)).rowIs wr.heap.size 102 4 (u8V k) := row_setCells0 z4.drew
      have x0 : (W1.drew.setCells wr.heap.size 0 (bL 4 k)).rowIs w.heap.size 70 16 (u8V f) := row_setCells_other s0.drew (by omega)
      have x1 : (W1.drew.setCells wr.heap.size 0 (bL 4 k)).rowIs (w.heap.size + 1) 70 16 (u8V fun _ => 0) := row_setCells_other s1.drew (by omega)
      have x2 : (W1.drew.setCells wr.heap.size 0 (bL 4 k)).rowIs (w.heap.size + 2) 70 16 (u8V h) := row_setCells_other s2.drew (by omega)
      have xb : Below w.heap.size w (W1.drew.setCells wr.heap.size 0 (bL 4 k)) := below_setCells' sb.drew hsz
      have xs : (W1.drew.setCells wr.heap.size 0 (bL 4 k)).heap.size = wr.heap.size + 1 := by rw [size_setCells]; exact SZ.out
      generalize W1.drew.setCells wr.heap.size 0 (bL 4 k) = W2 at *
      clear s0 s1 s2 sb SZ z4 hrg hth hmin
      have XS := hide xs
      clear xs
      go_wp2_with (first | (refine wpList_load_B rfl 102 _ rfl wr.heap.size 0 rfl _ _ 4 _ k _ x4 (Nat.le_refl _) (fun j _ => by rw [Nat.zero_add]) Tryz.underlying102 rfl Tryz.size4 ?_))
      refine (imp_columnMixed k W2).mono ?_
      rintro e W3 ⟨rfl, hb3⟩
      have y4 := x4.of_block (hb3.block _ x4.lt)
      have y0 := x0.of_block (hb3.block _ x0.lt)
      have y1 := x1.of_block (hb3.block _ x1.lt)
      have y2 := x2.of_block (hb3.block _ x2.lt)
      have yb := xb.trans (hb3.mono xb.size)
      have hg3 : w.heap.size + 2 < wr.heap.size := hg
      have hth := row_there (o := 0) (n := 4) y4 (by omega)
      obtain ⟨c, hc⟩ : ∃ c, c = colF k := ⟨_, rfl⟩
      rw [← hc]
      have HC := hide hc
      clear x4 x0 x1 x2 xb hb3 XS hc
      go_wp2_with (first | (refine wpList_store_B rfl 102 _ _ rfl wr.heap.size 0 4 c rfl rfl hth Tryz.size4 ?_))
      have x4 : (W3.setCells wr.heap.size 0 (bL 4 c)).rowIs wr.heap.size 102 4 (u8V c) := row_setCells0 y4
      have x0 : (W3.setCells wr.heap.size 0 (bL 4 c)).rowIs w.heap.size 70 16 (u8V f) := row_setCells_other y0 (by omega)
      have x1 : (W3.setCells wr.heap.size 0 (bL 4 c)).rowIs (w.heap.size + 1) 70 16 (u8V fun _ => 0) := row_setCells_other y1 (by omega)
      have x2 : (W3.setCells wr.heap.size 0 (bL 4 c)).rowIs (w.heap.size + 2) 70 16 (u8V h) := row_setCells_other y2 (by omega)
      have xb : Below w.heap.size w (W3.setCells wr.heap.size 0 (bL 4 c)) := below_setCells' yb hsz
      generalize W3.setCells wr.heap.size 0 (bL 4 c) = W4 at *
      clear y4 y0 y1 y2 yb hth
      have hmin := hide (show 4 = Nat.min 4 (16 - q) by show 4 = min 4 (16 - q); omega)
      have hrg := row_range0 (w := W4.drew) x4
      have hth := row_there (w := W4.drew) (o := q) (n := 4) x2 (by omega)
      go_region_law (refine step_copy_B rfl _ _ 22 22 rfl 5 Tryz.underlying22 (by kernel_rfl) (w.heap.size + 2) q (16 - q) (16 - q) wr.heap.size 0 4 4 rfl rfl 4 c hmin.out hrg hth ?_)
      clear hrg hth w4 hnc hmin
      go_wp2_with fail
      go_roundw
      case rel =>
        refine ⟨m + 1, _, by omega, by go_num, fun j hj => ?_, row_setCells_other x0.drew (by omega), row_setCells_other x1.drew (by omega), row_setCells x2.drew (by omega), below_setCells' xb.drew (by omega)⟩
        show (if q ≤ j ∧ j < q + 4 then c (j - q) else h j) = _
        have hQ := HQ.out
        by_cases e : q ≤ j ∧ j < q + 4
        · rw [if_pos e, HC.out, colF_mix f k m (j - q) (by omega) (fun i hi => by rw [HK.out i hi, hQ]), mixF, show j / 4 = m by omega, show j % 4 = j - q by omega]
        · rw [if_neg e]; exact hh.out j (by omega)
      case measure => simp [intOf]; omega
    · have r2' : wr.rowIs (w.heap.size + 2) 70 16 (u8V (mixF f)) := r2.congr fun i hi => by rw [u8V, u8V, hh.out i (by omega)]
      have hth := row_there (o := 0) (n := 16) r1 (by omega)
      have hfin := row_setCells0 (k := mixF f) r1
      clear hh r2
      go_wp2_with (first | (refine wpList_load_B rfl 70 _ rfl (w.heap.size + 2) 0 rfl _ _ 16 _ (mixF f) _ r2' (by omega) (fun j _ => by rw [Nat.zero_add]) Tryz.underlying70 rfl Tryz.size16 ?_) | (refine wpList_store_B rfl 70 _ _ rfl (w.heap.size + 1) 0 16 (mixF f) rfl rfl hth Tryz.size16 ?_))
      exact bodyPost_ret (ret_B Tryz.results76 _ _ (w.heap.size + 1) 16 _ _ _ rfl hfin Tryz.underlying70 rfl Tryz.size16) rfl ⟨rfl, below_setCells' hbl (by omega)⟩
end Go.Proofs.YtconcnndghmdfaaGreatDoor
namespace Go.Proofs.YtconcnndghmdfaaGreatDoor
open Go.RowKit
attribute [local irreducible] times sbox dbl dU
theorem row_key {w : World} {g : Nat} {K : Nat → UInt8} (h : w.rowIs g 100 432 (u8V (cipF K))) (i o : Nat) (hi : i < 11) (ho : o = 256 + 16 * i) : w.rangeAt g o (bL 16 fun j => K (16 * i + j)) :=
  row_range h (by omega) (fun j hj => by rw [cipF, if_neg (by omega), show o + j - 256 = 16 * i + j by omega])
set_option maxRecDepth 100000 in
set_option maxHeartbeats 1600000 in
theorem imp_hidden (g : Nat) (K B : Nat → UInt8) (w : World) (hc : w.rowIs g 100 432 (u8V (cipF K))) :
    Calls Tryz.prog 50 #[.pointer (some ⟨g, 0, none⟩), .agg (bL 16 B).toArray] w fun e w' => e = .returned (.agg (bL 16 (encF K B 10)).toArray) ∧ Below w.heap.size w w' := by
  have hg := hc.lt
  have HC := hide hc
  clear hc
  go_enter Tryz.func50, Tryz.ntmps50
  go_wp2_with fail
  obtain ⟨W1, hW1⟩ : ∃ x, x = (w.alloc (.cells (bL 16 B).toArray 70)).alloc (.cells #[Value.int .u8 0, Value.int .u8 0, Value.int .u8 0, Value.int .u8 0, Value.int .u8 0, Value.int .u8 0, Value.int .u8 0, Value.int .u8 0, Value.int .u8 0, Value.int .u8 0, Value.int .u8 0, Value.int .u8 0, Value.int .u8 0, Value.int .u8 0, Value.int .u8 0, Value.int .u8 0] 70) := ⟨_, rfl⟩
  have r0 : W1.rowIs w.heap.size 70 16 (u8V B) := by rw [hW1]; exact (row_alloc w 70 16 B).alloc _
  have r1 : W1.rowIs (w.heap.size + 1) 70 16 (u8V fun _ => 0) := by
    have h := zeros8_row 16 (w.alloc (.cells (bL 16 B).toArray 70)) #[Value.int .u8 0, Value.int .u8 0, Value.int .u8 0, Value.int .u8 0, Value.int .u8 0, Value.int .u8 0, Value.int .u8 0, Value.int .u8 0, Value.int .u8 0, Value.int .u8 0, Value.int .u8 0, Value.int .u8 0, Value.int .u8 0, Value.int .u8 0, Value.int .u8 0, Value.int .u8 0] 70 rfl
    rw [World.size_alloc] at h; rw [hW1]; exact h
  have rc : W1.rowIs g 100 432 (u8V (cipF K)) := by rw [hW1]; exact (HC.out.alloc _).alloc _
  have rb : Below w.heap.size w W1 := by rw [hW1]; exact ((Below.refl w.heap.size w).alloc (Nat.le_refl _) _).alloc (by simp) _
  rw [← hW1]
  clear hW1
  obtain ⟨k0, hk0⟩ : ∃ k : Nat → UInt8, k = fun j => K (16 * 0 + j) := ⟨_, rfl⟩
  have g1 := row_key rc 0 256 (by omega) (by omega)
  rw [← hk0] at g1
  have HK0 := hide hk0
  clear hk0
  have g0 := row_range0 r0.drew
  refine wp_region_held_drew (S := fun w' => w'.rangeAt g 256 (bL 16 k0)) (by kernel_rfl) g1 (fun hHeld => ?_)
  refine takeD (i := 1) (v := .pointer (some ⟨g, 0, none⟩)) (some 7) rfl rfl (by kernel_rfl) (by kernel_rfl) (by kernel_rfl) (fun _ _ _ h => h) (Or.inl ⟨by rfl, fun w hSw => by go_simp⟩) hHeld ?_
  simp only [Act.put, List.setIfInBounds_toArray, List.set_cons_zero, List.set_cons_succ]
  refine takeD (i := 2) (v := .pointer (some ⟨g, 0, none⟩)) (some 8) rfl rfl (by kernel_rfl) (by kernel_rfl) (by kernel_rfl) (fun _ _ _ h => h) (Or.inl ⟨by rfl, fun w hSw => by go_simp⟩) hHeld ?_
  simp only [Act.put, List.setIfInBounds_toArray, List.set_cons_zero, List.set_cons_succ]
  refine takeD (i := 3) (v := .pointer (some ⟨g, 256, none⟩)) (some 9) rfl rfl (by kernel_rfl) (by kernel_rfl) (by kernel_rfl) (fun _ _ _ h => h) (Or.inl ⟨by rfl, fun w hSw => by go_simp⟩) hHeld ?_
  simp only [Act.put, List.setIfInBounds_toArray, List.set_cons_zero, List.set_cons_succ]
  refine takeD (i := 4) (v := .pointer (some ⟨g, 256, none⟩)) (some 10) rfl rfl (by kernel_rfl) (by kernel_rfl) (by kernel_rfl) (fun _ _ _ h => h) (Or.inl ⟨by rfl, fun w hSw => by go_simp⟩) hHeld ?_
  simp only [Act.put, List.setIfInBounds_toArray, List.set_cons_zero, List.set_cons_succ]
  refine takeD (i := 5) (some 11) rfl rfl (by kernel_rfl) (by kernel_rfl) (by kernel_rfl) (fun _ _ _ h => h) (yieldsB (by rfl) _ (.tmp 10) rfl g 256 16 rfl k0 _ (fun _ h => h) Tryz.underlying70 rfl Tryz.size16) hHeld ?_
  simp only [Act.put, List.setIfInBounds_toArray, List.set_cons_zero, List.set_cons_succ]
  refine oneLoad (i := 0) (some 6) (by kernel_rfl) rfl rfl rfl _ (.tmp 3) rfl w.heap.size 0 16 rfl B _ g0 Tryz.underlying70 rfl Tryz.size16 hHeld ?_
  simp only [Act.put, List.setIfInBounds_toArray, List.set_cons_zero, List.set_cons_succ]
  refine wpAnyH_ready (rs := [6]) (by kernel_rfl) (by simp) ?_
  refine AllReadyH.cons rfl (fun KK hK => ?_) AllReadyH.nil
  go_simp
  refine (imp_added B k0 _).mono ?_
  rintro e w2 ⟨rfl, hb_w2⟩
  have r0a := r0.of_block (hb_w2.block _ r0.lt)
  have r1a := r1.of_block (hb_w2.block _ r1.lt)
  have rca := rc.of_block (hb_w2.block _ rc.lt)
  have rba := (rb.drew).trans (hb_w2.mono rb.size)
  have Sa : w2.rangeAt g 256 (bL 16 k0) := by have h := row_key rca 0 256 (by omega) (by omega); rw [← HK0.out] at h; exact h
  go_wp2_with fail
  refine hK.out _ _ Sa (fun hHeld => ?_)
  clear hK KK
  obtain ⟨e0, he0⟩ : ∃ f, f = fun j => B j ^^^ k0 j := ⟨_, rfl⟩
  rw [← he0]
  have HE0 := hide he0
  clear he0
  have q0 : (w2.setCells w.heap.size 0 (bL 16 e0)).rowIs w.heap.size 70 16 (u8V e0) := row_setCells0 r0a
  have q1 : (w2.setCells w.heap.size 0 (bL 16 e0)).rowIs (w.heap.size + 1) 70 16 (u8V (fun _ => 0)) := row_setCells_other r1a (by omega)
  have qc : (w2.setCells w.heap.size 0 (bL 16 e0)).rowIs g 100 432 (u8V (cipF K)) := row_setCells_other rca (by omega)
  have qb : Below w.heap.size w (w2.setCells w.heap.size 0 (bL 16 e0)) := below_setCells' rba (by omega)
  have th := row_there (o := 0) (n := 16) r0a (by omega)
  have hS3 : (w2.setCells w.heap.size 0 (bL 16 e0)).rangeAt g 256 (bL 16 k0) := by have h := row_key qc 0 256 (by omega) (by omega); rw [← HK0.out] at h; exact h
  refine oneStore (i := 7) none (by kernel_rfl) rfl rfl rfl _ (.tmp 3) (.tmp 12) rfl w.heap.size 0 16 e0 rfl rfl th Tryz.size16 hS3 ?_
  refine wpAnyH_done (by kernel_rfl) ?_ _
  generalize w2.setCells w.heap.size 0 (bL 16 e0) = W2 at *
  clear r0 r1 rc rb r0a r1a rca rba Sa th hS3 hb_w2 g0 g1
  go_wp2_with fail
  go_loopw [13] (fun i wx => ∃ (m : Nat) (f : Nat → UInt8), m ≤ 9 ∧ i = .int .i64 m ∧ Hid (∀ j, j < 16 → f j = encF K B m j) ∧ wx.rowIs w.heap.size 70 16 (u8V f) ∧ wx.rowIs (w.heap.size + 1) 70 16 (u8V fun _ => 0) ∧ wx.rowIs g 100 432 (u8V (cipF K)) ∧ Below w.heap.size w wx) (fun i _ => 9 - (intOf i).toNat)
  case atStart => exact ⟨0, e0, by omega, rfl, fun j _ => by rw [HE0.out, HK0.out]; show B j ^^^ K (16 * 0 + j) = B j ^^^ K j; rw [Nat.mul_zero, Nat.zero_add], q0, q1, qc, qb⟩
  case round =>
    clear q0 q1 qc qb
    obtain ⟨m, f, hm, rfl, hf, r0, r1, rc, rb⟩ := hrel
    by_cases hlt : m < 9
    · have hlt' : (m : Int) < 9 := by omega
      obtain ⟨s, es⟩ : ∃ x, x = m + 1 := ⟨_, rfl⟩
      obtain ⟨o1, eo1⟩ : ∃ x, x = 256 + 16 * s := ⟨_, rfl⟩
      have m1 : IntKind.i64.wrap ((m : Int) + 1) = (s : Int) := w_add (b := 1) es.symm (by omega)
      have m1' : (m : Int) + 1 = (s : Int) := by omega
      have ws : IntKind.i64.wrap (s : Int) = (s : Int) := by simp only [IntKind.wrap_i64]; omega
      have n1 : 256 + 16 * s = o1 := eo1.symm
      have n1' : 256 + s * 16 = o1 := by omega
      have s11 : (s : Int) < 11 := by omega
      have HO := hide (show s < 11 ∧ o1 = 256 + 16 * s from ⟨by omega, eo1⟩)
      have HS := hide es
      obtain ⟨ks, hks⟩ : ∃ k : Nat → UInt8, k = fun j => K (16 * s + j) := ⟨_, rfl⟩
      have g1 := row_key rc s o1 HO.out.1 HO.out.2
      rw [← hks] at g1
      have HKS := hide hks
      have ht : ∀ j, j < 256 → wr.drew.cell? ⟨g, j, none⟩ = some (.int .u8 ((sbox j).toNat : Int)) := fun j hj => by
        have h := rc.drew.cell (i := j) (by omega)
        rw [u8V, cipF, if_pos hj] at h; exact h
      have HT := hide ht
      have g0 := row_range0 r0.drew
      clear hks es eo1 ht
      go_wp2_with fail
      refine wp_region_held_drew (S := fun w' => w'.rangeAt g o1 (bL 16 ks)) (by kernel_rfl) g1 (fun hHeld => ?_)
      refine takeD (i := 0) (v := .pointer (some ⟨g, 0, none⟩)) (some 16) rfl rfl (by kernel_rfl) (by kernel_rfl) (by kernel_rfl) (fun _ _ _ h => h) (Or.inl ⟨by rfl, fun w hSw => by go_simp⟩) hHeld ?_
      simp only [Act.put, List.setIfInBounds_toArray, List.set_cons_zero, List.set_cons_succ]
      refine takeD (i := 4) (v := .pointer (some ⟨g, 0, none⟩)) (some 20) rfl rfl (by kernel_rfl) (by kernel_rfl) (by kernel_rfl) (fun _ _ _ h => h) (Or.inl ⟨by rfl, fun w hSw => by go_simp⟩) hHeld ?_
      simp only [Act.put, List.setIfInBounds_toArray, List.set_cons_zero, List.set_cons_succ]
      refine takeD (i := 5) (v := .int .i64 (m : Int)) (some 21) rfl rfl (by kernel_rfl) (by kernel_rfl) (by kernel_rfl) (fun _ _ _ h => h) (Or.inl ⟨by rfl, fun w hSw => by go_simp⟩) hHeld ?_
      simp only [Act.put, List.setIfInBounds_toArray, List.set_cons_zero, List.set_cons_succ]
      refine takeD (i := 6) (v := .int .i64 (s : Int)) (some 22) rfl rfl (by kernel_rfl) (by kernel_rfl) (by kernel_rfl) (fun _ _ _ h => h) (Or.inl ⟨by rfl, fun w hSw => by go_simp⟩) hHeld ?_
      simp only [Act.put, List.setIfInBounds_toArray, List.set_cons_zero, List.set_cons_succ]
      refine takeD (i := 7) (v := .pointer (some ⟨g, 0, none⟩)) (some 23) rfl rfl (by kernel_rfl) (by kernel_rfl) (by kernel_rfl) (fun _ _ _ h => h) (Or.inl ⟨by rfl, fun w hSw => by go_simp⟩) hHeld ?_
      simp only [Act.put, List.setIfInBounds_toArray, List.set_cons_zero, List.set_cons_succ]
      refine takeD (i := 8) (v := .pointer (some ⟨g, 256, none⟩)) (some 24) rfl rfl (by kernel_rfl) (by kernel_rfl) (by kernel_rfl) (fun _ _ _ h => h) (Or.inl ⟨by rfl, fun w hSw => by go_simp⟩) hHeld ?_
      simp only [Act.put, List.setIfInBounds_toArray, List.set_cons_zero, List.set_cons_succ]
      refine takeD (i := 9) (v := .pointer (some ⟨g, o1, none⟩)) (some 25) rfl rfl (by kernel_rfl) (by kernel_rfl) (by kernel_rfl) (fun _ _ _ h => h) (Or.inl ⟨by rfl, fun w hSw => by go_simp⟩) hHeld ?_
      simp only [Act.put, List.setIfInBounds_toArray, List.set_cons_zero, List.set_cons_succ]
      refine takeD (i := 10) (some 26) rfl rfl (by kernel_rfl) (by kernel_rfl) (by kernel_rfl) (fun _ _ _ h => h) (yieldsB (by rfl) _ (.tmp 25) rfl g o1 16 rfl ks _ (fun _ h => h) Tryz.underlying70 rfl Tryz.size16) hHeld ?_
      simp only [Act.put, List.setIfInBounds_toArray, List.set_cons_zero, List.set_cons_succ]
      refine oneLoad (i := 1) (some 17) (by kernel_rfl) rfl rfl rfl _ (.tmp 3) rfl w.heap.size 0 16 rfl f _ g0 Tryz.underlying70 rfl Tryz.size16 hHeld ?_
      simp only [Act.put, List.setIfInBounds_toArray, List.set_cons_zero, List.set_cons_succ]
      refine wpAnyH_ready (rs := [2]) (by kernel_rfl) (by simp) ?_
      refine AllReadyH.cons rfl (fun KK hK => ?_) AllReadyH.nil
      go_simp
      refine (imp_shifted g f wr.drew rc.lt HT.out).mono ?_
      rintro e w2 ⟨rfl, hb_w2⟩
      have r0a := r0.of_block (hb_w2.block _ r0.lt)
      have r1a := r1.of_block (hb_w2.block _ r1.lt)
      have rca := rc.of_block (hb_w2.block _ rc.lt)
      have rba := (rb.drew).trans (hb_w2.mono rb.size)
      have Sa : w2.rangeAt g o1 (bL 16 ks) := by have h := row_key rca s o1 HO.out.1 HO.out.2; rw [← HKS.out] at h; exact h
      go_wp2_with fail
      refine hK.out _ _ Sa (fun hHeld => ?_)
      clear hK KK
      refine wpAnyH_ready (rs := [3]) (by kernel_rfl) (by simp) ?_
      refine AllReadyH.cons rfl (fun KK hK => ?_) AllReadyH.nil
      go_simp
      refine (imp_columns (subF f) _).mono ?_
      rintro e w3 ⟨rfl, hb_w3⟩
      have r0b := r0a.of_block (hb_w3.block _ r0a.lt)
      have r1b := r1a.of_block (hb_w3.block _ r1a.lt)
      have rcb := rca.of_block (hb_w3.block _ rca.lt)
      have rbb := (rba).trans (hb_w3.mono rba.size)
      have Sb : w3.rangeAt g o1 (bL 16 ks) := by have h := row_key rcb s o1 HO.out.1 HO.out.2; rw [← HKS.out] at h; exact h
      go_wp2_with fail
      refine hK.out _ _ Sb (fun hHeld => ?_)
      clear hK KK
      refine wpAnyH_ready (rs := [11]) (by kernel_rfl) (by simp) ?_
      refine AllReadyH.cons rfl (fun KK hK => ?_) AllReadyH.nil
      go_simp
      refine (imp_added (mixF (subF f)) ks _).mono ?_
      rintro e w4 ⟨rfl, hb_w4⟩
      have r0c := r0b.of_block (hb_w4.block _ r0b.lt)
      have r1c := r1b.of_block (hb_w4.block _ r1b.lt)
      have rcc := rcb.of_block (hb_w4.block _ rcb.lt)
      have rbc := (rbb).trans (hb_w4.mono rbb.size)
      have Sc : w4.rangeAt g o1 (bL 16 ks) := by have h := row_key rcc s o1 HO.out.1 HO.out.2; rw [← HKS.out] at h; exact h
      go_wp2_with fail
      refine hK.out _ _ Sc (fun hHeld => ?_)
      clear hK KK
      obtain ⟨e0, he0⟩ : ∃ h, h = fun j => mixF (subF f) j ^^^ ks j := ⟨_, rfl⟩
      rw [← he0]
      have HE0 := hide he0
      clear he0
      have q0 : (w4.setCells w.heap.size 0 (bL 16 e0)).rowIs w.heap.size 70 16 (u8V e0) := row_setCells0 r0c
      have q1 : (w4.setCells w.heap.size 0 (bL 16 e0)).rowIs (w.heap.size + 1) 70 16 (u8V (fun _ => 0)) := row_setCells_other r1c (by omega)
      have qc : (w4.setCells w.heap.size 0 (bL 16 e0)).rowIs g 100 432 (u8V (cipF K)) := row_setCells_other rcc (by omega)
      have qb : Below w.heap.size w (w4.setCells w.heap.size 0 (bL 16 e0)) := below_setCells' rbc (by omega)
      have th := row_there (o := 0) (n := 16) r0c (by omega)
      have hS3 : (w4.setCells w.heap.size 0 (bL 16 e0)).rangeAt g o1 (bL 16 ks) := by have h := row_key qc s o1 HO.out.1 HO.out.2; rw [← HKS.out] at h; exact h
      refine oneStore (i := 12) none (by kernel_rfl) rfl rfl rfl _ (.tmp 3) (.tmp 27) rfl w.heap.size 0 16 e0 rfl rfl th Tryz.size16 hS3 ?_
      refine wpAnyH_done (by kernel_rfl) ?_ _
      have hf' := hide (show ∀ j, j < 16 → e0 j = encF K B (m + 1) j from fun j hj => by
        rw [HE0.out, HKS.out, HS.out]
        show mixF (subF f) j ^^^ K (16 * (m + 1) + j) = midF (m + 1) (encF K B m) j ^^^ K (16 * (m + 1) + j)
        rw [← midF_congr (m + 1) hf.out j hj, midF, if_pos (by omega)])
      generalize w4.setCells w.heap.size 0 (bL 16 e0) = W4 at *
      clear r0 r1 rc rb r0a r1a rca rba Sa r0b r1b rcb rbb Sb r0c r1c rcc rbc Sc th hS3 hb_w2 hb_w3 hb_w4 g0 g1 m1 m1' ws n1 n1' hf HT
      go_wp2_with fail
      go_roundw
      case rel => exact ⟨m + 1, e0, by omega, by go_num, hf', q0, q1, qc, qb⟩
      case measure => simp [intOf]; omega
    · have hlt' : ¬ (m : Int) < 9 := by omega
      obtain ⟨ks, hks⟩ : ∃ k : Nat → UInt8, k = fun j => K (16 * 10 + j) := ⟨_, rfl⟩
      have g1 := row_key rc 10 416 (by omega) (by omega)
      rw [← hks] at g1
      have HKS := hide hks
      have ht : ∀ j, j < 256 → wr.drew.cell? ⟨g, j, none⟩ = some (.int .u8 ((sbox j).toNat : Int)) := fun j hj => by
        have h := rc.drew.cell (i := j) (by omega)
        rw [u8V, cipF, if_pos hj] at h; exact h
      have HT := hide ht
      have g0 := row_range0 r0.drew
      clear hks ht
      go_wp2_with fail
      refine wp_region_held_drew (S := fun w' => w'.rangeAt g 416 (bL 16 ks)) (by kernel_rfl) g1 (fun hHeld => ?_)
      refine takeD (i := 0) (v := .pointer (some ⟨g, 0, none⟩)) (some 29) rfl rfl (by kernel_rfl) (by kernel_rfl) (by kernel_rfl) (fun _ _ _ h => h) (Or.inl ⟨by rfl, fun w hSw => by go_simp⟩) hHeld ?_
      simp only [Act.put, List.setIfInBounds_toArray, List.set_cons_zero, List.set_cons_succ]
      refine takeD (i := 3) (v := .pointer (some ⟨g, 0, none⟩)) (some 32) rfl rfl (by kernel_rfl) (by kernel_rfl) (by kernel_rfl) (fun _ _ _ h => h) (Or.inl ⟨by rfl, fun w hSw => by go_simp⟩) hHeld ?_
      simp only [Act.put, List.setIfInBounds_toArray, List.set_cons_zero, List.set_cons_succ]
      refine takeD (i := 4) (v := .pointer (some ⟨g, 0, none⟩)) (some 33) rfl rfl (by kernel_rfl) (by kernel_rfl) (by kernel_rfl) (fun _ _ _ h => h) (Or.inl ⟨by rfl, fun w hSw => by go_simp⟩) hHeld ?_
      simp only [Act.put, List.setIfInBounds_toArray, List.set_cons_zero, List.set_cons_succ]
      refine takeD (i := 5) (v := .pointer (some ⟨g, 256, none⟩)) (some 34) rfl rfl (by kernel_rfl) (by kernel_rfl) (by kernel_rfl) (fun _ _ _ h => h) (Or.inl ⟨by rfl, fun w hSw => by go_simp⟩) hHeld ?_
      simp only [Act.put, List.setIfInBounds_toArray, List.set_cons_zero, List.set_cons_succ]
      refine takeD (i := 6) (v := .pointer (some ⟨g, 416, none⟩)) (some 35) rfl rfl (by kernel_rfl) (by kernel_rfl) (by kernel_rfl) (fun _ _ _ h => h) (Or.inl ⟨by rfl, fun w hSw => by go_simp⟩) hHeld ?_
      simp only [Act.put, List.setIfInBounds_toArray, List.set_cons_zero, List.set_cons_succ]
      refine takeD (i := 7) (some 36) rfl rfl (by kernel_rfl) (by kernel_rfl) (by kernel_rfl) (fun _ _ _ h => h) (yieldsB (by rfl) _ (.tmp 35) rfl g 416 16 rfl ks _ (fun _ h => h) Tryz.underlying70 rfl Tryz.size16) hHeld ?_
      simp only [Act.put, List.setIfInBounds_toArray, List.set_cons_zero, List.set_cons_succ]
      refine oneLoad (i := 1) (some 30) (by kernel_rfl) rfl rfl rfl _ (.tmp 3) rfl w.heap.size 0 16 rfl f _ g0 Tryz.underlying70 rfl Tryz.size16 hHeld ?_
      simp only [Act.put, List.setIfInBounds_toArray, List.set_cons_zero, List.set_cons_succ]
      refine wpAnyH_ready (rs := [2]) (by kernel_rfl) (by simp) ?_
      refine AllReadyH.cons rfl (fun KK hK => ?_) AllReadyH.nil
      go_simp
      refine (imp_shifted g f wr.drew rc.lt HT.out).mono ?_
      rintro e w2 ⟨rfl, hb_w2⟩
      have r0a := r0.of_block (hb_w2.block _ r0.lt)
      have r1a := r1.of_block (hb_w2.block _ r1.lt)
      have rca := rc.of_block (hb_w2.block _ rc.lt)
      have rba := (rb.drew).trans (hb_w2.mono rb.size)
      have Sa : w2.rangeAt g 416 (bL 16 ks) := by have h := row_key rca 10 416 (by omega) (by omega); rw [← HKS.out] at h; exact h
      go_wp2_with fail
      refine hK.out _ _ Sa (fun hHeld => ?_)
      clear hK KK
      refine wpAnyH_ready (rs := [8]) (by kernel_rfl) (by simp) ?_
      refine AllReadyH.cons rfl (fun KK hK => ?_) AllReadyH.nil
      go_simp
      refine (imp_added (subF f) ks _).mono ?_
      rintro e w3 ⟨rfl, hb_w3⟩
      have r0b := r0a.of_block (hb_w3.block _ r0a.lt)
      have r1b := r1a.of_block (hb_w3.block _ r1a.lt)
      have rcb := rca.of_block (hb_w3.block _ rca.lt)
      have rbb := (rba).trans (hb_w3.mono rba.size)
      have Sb : w3.rangeAt g 416 (bL 16 ks) := by have h := row_key rcb 10 416 (by omega) (by omega); rw [← HKS.out] at h; exact h
      go_wp2_with fail
      refine hK.out _ _ Sb (fun hHeld => ?_)
      clear hK KK
      obtain ⟨e0, he0⟩ : ∃ h, h = fun j => subF f j ^^^ ks j := ⟨_, rfl⟩
      rw [← he0]
      have HE0 := hide he0
      clear he0
      have q0 : (w3.setCells (w.heap.size + 1) 0 (bL 16 e0)).rowIs w.heap.size 70 16 (u8V f) := row_setCells_other r0b (by omega)
      have q1 : (w3.setCells (w.heap.size + 1) 0 (bL 16 e0)).rowIs (w.heap.size + 1) 70 16 (u8V e0) := row_setCells0 r1b
      have qc : (w3.setCells (w.heap.size + 1) 0 (bL 16 e0)).rowIs g 100 432 (u8V (cipF K)) := row_setCells_other rcb (by omega)
      have qb : Below w.heap.size w (w3.setCells (w.heap.size + 1) 0 (bL 16 e0)) := below_setCells' rbb (by omega)
      have th := row_there (o := 0) (n := 16) r1b (by omega)
      have hS3 : (w3.setCells (w.heap.size + 1) 0 (bL 16 e0)).rangeAt g 416 (bL 16 ks) := by have h := row_key qc 10 416 (by omega) (by omega); rw [← HKS.out] at h; exact h
      refine oneStore (i := 9) none (by kernel_rfl) rfl rfl rfl _ (.tmp 4) (.tmp 37) rfl (w.heap.size + 1) 0 16 e0 rfl rfl th Tryz.size16 hS3 ?_
      refine wpAnyH_done (by kernel_rfl) ?_ _
      have hf' := hide (show ∀ j, j < 16 → e0 j = encF K B 10 j from fun j hj => by
        have hm9 : m = 9 := by omega
        subst hm9
        rw [HE0.out, HKS.out]
        show subF f j ^^^ K (16 * 10 + j) = midF 10 (encF K B 9) j ^^^ K (16 * (9 + 1) + j)
        rw [← midF_congr 10 hf.out j hj, midF, if_neg (by omega)])
      have q1' := q1.congr (g := u8V (encF K B 10)) (fun i hi => by rw [u8V, u8V, hf'.out i hi])
      generalize w3.setCells (w.heap.size + 1) 0 (bL 16 e0) = W4 at *
      clear r0 r1 rc rb r0a r1a rca rba Sa r0b r1b rcb rbb Sb th hS3 hb_w2 hb_w3 g0 g1 hf HT q0 q1
      go_wp2_with fail
      exact bodyPost_ret (ret_B Tryz.results50 _ _ (w.heap.size + 1) 16 _ _ _ rfl q1' Tryz.underlying70 rfl Tryz.size16) rfl ⟨rfl, qb⟩
end Go.Proofs.YtconcnndghmdfaaGreatDoor
