/- Put together: ImpCip2, ImpCols. -/
import Derived.Test.YtconcnndghmdfaaGreatDoorSa31
import Derived.Test.YtconcnndghmdfaaGreatDoorSa30
namespace Go.Proofs.YtconcnndghmdfaaGreatDoor
open Go.RowKit
attribute [local irreducible] times sbox dbl dU
/-- What a cipher's block holds: the box, and behind it the keys of the rounds. -/
def cipF (K : Nat → UInt8) (j : Nat) : UInt8 := if j < 256 then sbox j else K (j - 256)
set_option maxRecDepth 100000 in
set_option maxHeartbeats 1600000 in
theorem imp_cipher (key : ByteArray) (w : World) (hk16 : key.size = 16) :
    Calls Tryz.prog 49 #[.string key] w fun e w' => ∃ g, e = .returned (.pointer (some ⟨g, 0, none⟩)) ∧ w.heap.size ≤ g ∧ w'.rowIs g 100 432 (u8V (cipF (kB (bF key)))) ∧ Below w.heap.size w w' := by
  go_enter Tryz.func49, Tryz.ntmps49
  go_wp2_with fail
  refine (imp_table w).mono ?_
  rintro e w1 ⟨rfl, hb1⟩
  have hbt := hide (built_cip sbox)
  obtain ⟨f0, hf0⟩ : ∃ f : Nat → UInt8, f = fun j => if j < 256 then sbox j else 0 := ⟨_, rfl⟩
  rw [← hf0] at hbt
  have HF0 := hide (show ∀ j, j < 256 → f0 j = sbox j from fun j hj => by rw [hf0]; exact if_pos hj)
  clear hf0
  go_wp2_with (first | (with_reducible (show wpList _ _ _ ({ dst := _, op := .build _ _, type := _, pos := _, after := _, guard := _ } :: _) _ _); refine wpList_build_one rfl 100 0 _ rfl (.agg (bL 256 sbox).toArray) rfl _ hbt.out ?_))
  have x0 := row_alloc w1 100 432 f0
  have xb := hb1.alloc hb1.size (.cells (bL 432 f0).toArray 100)
  have hgw := hb1.size
  generalize w1.alloc (.cells (bL 432 f0).toArray 100) = W2 at *
  generalize w1.heap.size = g at *
  refine (imp_words g key W2 hk16 x0.lt (fun j hj => by rw [x0.cell (i := j) (by omega), u8V, HF0.out j hj])).mono ?_
  rintro e W3 ⟨rfl, hb3⟩
  have y0 := x0.of_block (hb3.block _ x0.lt)
  have yb := xb.trans (hb3.mono xb.size)
  obtain ⟨K, hK⟩ : ∃ K, K = kB (bF key) := ⟨_, rfl⟩
  rw [← hK]
  have HK := hide hK
  clear x0 xb hb3 hK hb1 hbt
  go_wp2_with fail
  go_loopw [12] (fun i wx => ∃ (m : Nat) (h : Nat → UInt8), m ≤ 44 ∧ i = .int .i64 m ∧ Hid (∀ j, j < 256 + 4 * m → h j = cipF K j) ∧ wx.rowIs g 100 432 (u8V h) ∧ Below w.heap.size w wx) (fun i _ => 44 - (intOf i).toNat)
  case atStart => exact ⟨0, f0, by omega, rfl, fun j hj => by rw [HF0.out j (by omega), cipF, if_pos (by omega)], y0, yb⟩
  case round =>
    clear y0 yb
    obtain ⟨m, h, hm, rfl, hh, r0, hbl⟩ := hrel
    by_cases hlt : m < 44
    · have hlt' : (m : Int) < 44 := by omega
      obtain ⟨L, hL⟩ : ∃ L : Nat → UInt8, L = fun j => K (4 * m + j) := ⟨_, rfl⟩
      have HL := hide (show ∀ j, L j = K (4 * m + j) from fun j => by rw [hL])
      have hidx : ∀ w, (Instr.index 103 (.agg (bL 176 K).toArray) (.int .i64 (m : Int))).run Tryz.prog w = .ok (.agg (bL 4 L).toArray) w := run_index_part 103 102 44 4 176 K L _ m Tryz.underlying103 Tryz.underlying102 rfl Tryz.size4 hlt rfl (fun j _ => HL.out j)
      have r2z := zeros8_row 4 wr #[Value.int .u8 0, Value.int .u8 0, Value.int .u8 0, Value.int .u8 0] 102 rfl
      have hst := run_stB (P := Tryz.prog) (k := L) (row_there (o := 0) (n := 4) r2z (by omega))
      have hgl := r0.lt
      have R0 := row_setCells_other (b := wr.heap.size) (o := 0) (vs := bL 4 L) (r0.alloc (.cells #[Value.int .u8 0, Value.int .u8 0, Value.int .u8 0, Value.int .u8 0] 102)) (by omega)
      have R2 := row_setCells0 (k := L) r2z
      have RB := below_setCells' (b := wr.heap.size) (o := 0) (vs := bL 4 L) (hbl.alloc hbl.size (.cells #[Value.int .u8 0, Value.int .u8 0, Value.int .u8 0, Value.int .u8 0] 102)) hbl.size
      clear hL r2z r0 hbl
      go_wp2_with fail
      clear hst hidx
      generalize (wr.alloc (.cells #[Value.int .u8 0, Value.int .u8 0, Value.int .u8 0, Value.int .u8 0] 102)).setCells wr.heap.size 0 (bL 4 L) = W5 at *
      generalize wr.heap.size = z at *
      obtain ⟨c, ec⟩ : ∃ x, x = m / 4 := ⟨_, rfl⟩
      obtain ⟨r, er⟩ : ∃ x, x = m % 4 := ⟨_, rfl⟩
      obtain ⟨o1, eo1⟩ : ∃ x, x = 256 + 16 * c := ⟨_, rfl⟩
      obtain ⟨x4, ex4⟩ : ∃ x, x = 4 * r := ⟨_, rfl⟩
      obtain ⟨o2, eo2⟩ : ∃ x, x = o1 + x4 := ⟨_, rfl⟩
      have t1 : (m : Int) / 4 = (c : Int) := by omega
      have t1' : (m : Int).tdiv 4 = (c : Int) := by rw [Int.tdiv_eq_ediv_of_nonneg (by omega)]; exact t1
      have t2 : (m : Int) % 4 = (r : Int) := by omega
      have t2' : (m : Int).tmod 4 = (r : Int) := by rw [Int.tmod_eq_emod_of_nonneg (by omega)]; exact t2
      have w1 : IntKind.i64.wrap (c : Int) = (c : Int) := by simp only [IntKind.wrap_i64]; omega
      have w2 : IntKind.i64.wrap (r : Int) = (r : Int) := by simp only [IntKind.wrap_i64]; omega
      have w3 : IntKind.i64.wrap (4 * (r : Int)) = (x4 : Int) := by simp only [IntKind.wrap_i64]; omega
      have c11 : (c : Int) < 11 := by omega
      have x12 : (x4 : Int) ≤ 16 := by omega
      have x16 : ¬ 16 = x4 := by omega
      have n1 : 256 + 16 * c = o1 := eo1.symm
      have n1' : 256 + c * 16 = o1 := by omega
      have n2 : o1 + x4 = o2 := eo2.symm
      have HO := hide (show o2 = 256 + 4 * m by omega)
      have hx12 : x4 ≤ 12 := by omega
      have hmin := hide (show 4 = Nat.min 4 (16 - x4) by show 4 = min 4 (16 - x4); omega)
      have hrg := row_range0 (w := W5.drew) R2
      have hth := row_there (w := W5.drew) (o := o2) (n := 4) R0 (by omega)
      clear ec er eo1 ex4 eo2
      go_region_held_law (fun _ => True) (trivial) (refine step_copy_B rfl (.tmp 25) (.tmp 26) 22 22 rfl 5 Tryz.underlying22 (by kernel_rfl) g o2 (16 - x4) (16 - x4) z 0 4 4 rfl rfl 4 L hmin.out hrg hth ?_)
      clear hrg hth hmin t1 t1' t2 t2' w1 w2 w3 c11 x16 n1 n1' n2
      go_wp2_with fail
      go_roundw
      case rel =>
        refine ⟨m + 1, _, by omega, by go_num, fun j hj => ?_, row_setCells R0.drew (by have := HO.out; omega), below_setCells' RB.drew hgw⟩
        show (if o2 ≤ j ∧ j < o2 + 4 then L (j - o2) else h j) = _
        have hO := HO.out
        by_cases e : o2 ≤ j ∧ j < o2 + 4
        · rw [if_pos e, HL.out, cipF, if_neg (by omega), show 4 * m + (j - o2) = j - 256 by omega]
        · rw [if_neg e]; exact hh.out j (by omega)
      case measure => simp [intOf]; omega
    · have hlt' : ¬ (m : Int) < 44 := by omega
      have r0' : wr.rowIs g 100 432 (u8V (cipF (kB (bF key)))) := r0.congr fun i hi => by rw [u8V, u8V, hh.out i (by omega), HK.out]
      clear hh
      go_wp2_with fail
      go_ret
      exact ⟨g, rfl, hgw, r0', hbl⟩
end Go.Proofs.YtconcnndghmdfaaGreatDoor
namespace Go.Proofs.YtconcnndghmdfaaGreatDoor
open Go.RowKit
attribute [local irreducible] times sbox dbl dU
set_option maxRecDepth 100000 in
set_option maxHeartbeats 1600000 in
theorem imp_columns (f : Nat → UInt8) (w : World) :
    Calls Tryz.prog 76 #[.agg (bL 16 f).toArray] w fun e w' => e = .returned (.agg (bL 16 (mixF f)).toArray) ∧ Below w.heap.size w w' := by
  go_enter Tryz.func76, Tryz.ntmps76
  go_wp2_with fail
  go_loopw [6] (fun i wx => ∃ (m : Nat) (h : Nat → UInt8), m ≤ 4 ∧ i = .int .i64 m ∧ Hid (∀ j, j < 4 * m → h j = mixF f j) ∧ wx.rowIs w.heap.size 70 16 (u8V f) ∧ wx.rowIs (w.heap.size + 1) 70 16 (u8V fun _ => 0) ∧ wx.rowIs (w.heap.size + 2) 70 16 (u8V h) ∧ Below w.heap.size w wx) (fun i _ => 4 - (intOf i).toNat)
  case atStart =>
    refine ⟨0, fun _ => 0, by omega, rfl, fun j hj => by omega, ((row_alloc w _ 16 f).alloc _).alloc _, ?_, ?_, (((Below.refl _ _).alloc (Nat.le_refl _) _).alloc (by simp) _).alloc (by simp; omega) _⟩
    · have h := zeros8_row 16 (w.alloc (.cells (bL 16 f).toArray 70)) _ 70 rfl
      rw [World.size_alloc] at h
      exact h.alloc _
    · have h := zeros8_row 16 ((w.alloc (.cells (bL 16 f).toArray 70)).alloc (.cells (List.replicate 16 (Value.int .u8 0)).toArray 70)) _ 70 rfl
      rw [World.size_alloc, World.size_alloc] at h
      exact h
  case round =>
    obtain ⟨m, h, hm, rfl, hh, r0, r1, r2, hbl⟩ := hrel
    by_cases hlt : m < 4
    · obtain ⟨q, eq⟩ : ∃ q, q = 4 * m := ⟨_, rfl⟩
      have w4 : IntKind.i64.wrap (4 * (m : Int)) = (q : Int) := w_mul (show 4 * m = q by omega) (by omega)
      have hq : (q : Int) ≤ 16 := by omega
      have hq2 : ¬ (16 : Int) < (q : Int) := by omega
      have hnc : ¬ 16 = q := by omega
      have HQ := hide eq
      have hlt12 : q ≤ 12 := by omega
      have hsz := hbl.size
      clear eq
      obtain ⟨k, hk⟩ : ∃ k : Nat → UInt8, k = fun j => f (q + j) := ⟨_, rfl⟩
      have HK := hide (show ∀ j, j < 4 → k j = f (q + j) from fun j _ => by rw [hk])
      have hg := r2.lt
      clear hk
      go_wp2_with fail
      obtain ⟨W1, hW1⟩ : ∃ x, x = wr.alloc (.cells #[Value.int .u8 0, Value.int .u8 0, Value.int .u8 0, Value.int .u8 0] 102) := ⟨_, rfl⟩
      have z4 : W1.rowIs wr.heap.size 102 4 (u8V fun _ => 0) := by rw [hW1]; exact zeros8_row 4 wr _ 102 rfl
      have s0 : W1.rowIs w.heap.size 70 16 (u8V f) := by rw [hW1]; exact r0.alloc _
      have s1 : W1.rowIs (w.heap.size + 1) 70 16 (u8V fun _ => 0) := by rw [hW1]; exact r1.alloc _
      have s2 : W1.rowIs (w.heap.size + 2) 70 16 (u8V h) := by rw [hW1]; exact r2.alloc _
      have sb : Below w.heap.size w W1 := by rw [hW1]; exact hbl.alloc hbl.size _
      have sz : W1.heap.size = wr.heap.size + 1 := by rw [hW1]; simp
      rw [← hW1]
      have SZ := hide sz
      clear hW1 r0 r1 r2 hbl sz
      have hmin := hide (show 4 = Nat.min (16 - q) 4 by show 4 = min (16 - q) 4; omega)
      have hrg := row_range (w := W1.drew) s0 (show q + 4 ≤ 16 by omega) HK.out
      have hth := row_there (w := W1.drew) z4 (show 0 + 4 ≤ 4 by omega)
      go_region_law (refine step_copy_B rfl _ _ 22 22 rfl 5 Tryz.underlying22 (by kernel_rfl) wr.heap.size 0 4 4 w.heap.size q (16 - q) (16 - q) rfl rfl 4 k hmin.out hrg hth ?_)
      have x4 : (W1.drew.setCells wr.heap.size 0 (bL 4 k)).rowIs wr.heap.size 102 4 (u8V k) := row_setCells0 z4.drew
      have x0 : (W1.drew.setCells wr.heap.size 0 (bL 4 k)).rowIs w.heap.size 70 16 (u8V f) := row_setCells_other s0.drew (by omega)
      have x1 : (W1.drew.setCells wr.heap.size 0 (bL 4 k)).rowIs (w.heap.size + 1) 70 16 (u8V fun _ => 0) := row_setCells_other s1.drew (by omega)
      have x2 : (W1.drew.setCells wr.heap.size 0 (bL 4 k)).rowIs (w.heap.size + 2) 70 16 (u8V h) := row_setCells_other s2.drew (by omega)
      have xb : Below w.heap.size w (W1.drew.setCells wr.heap.size 0 (bL 4 k)) := below_setCells' sb.drew hsz
      have xs : (W1.drew.setCells wr.heap.size 0 (bL 4 k)).heap.size = wr.heap.size + 1 := by rw [size_setCells]; exact SZ.out
      generalize W1.drew.setCells wr.heap.size 0 (bL 4 k) = W2 at *
      clear s0 s1 s2 sb SZ z4 hrg hth hmin
      have XS := hide xs
      clear xs
      go_wp2_with (first | (refine wpList_load_B rfl 102 _ rfl wr.heap.size 0 rfl _ _ 4 _ k _ x4 (Nat.le_refl _) (fun j _ => by rw [Nat.zero_add]) Tryz.underlying102 rfl Tryz.size4 ?_))
      refine (imp_columnMixed k W2).mono ?_
      rintro e W3 ⟨rfl, hb3⟩
      have y4 := x4.of_block (hb3.block _ x4.lt)
      have y0 := x0.of_block (hb3.block _ x0.lt)
      have y1 := x1.of_block (hb3.block _ x1.lt)
      have y2 := x2.of_block (hb3.block _ x2.lt)
      have yb := xb.trans (hb3.mono xb.size)
      have hg3 : w.heap.size + 2 < wr.heap.size := hg
      have hth := row_there (o := 0) (n := 4) y4 (by omega)
      obtain ⟨c, hc⟩ : ∃ c, c = colF k := ⟨_, rfl⟩
      rw [← hc]
      have HC := hide hc
      clear x4 x0 x1 x2 xb hb3 XS hc
      go_wp2_with (first | (refine wpList_store_B rfl 102 _ _ rfl wr.heap.size 0 4 c rfl rfl hth Tryz.size4 ?_))
      have x4 : (W3.setCells wr.heap.size 0 (bL 4 c)).rowIs wr.heap.size 102 4 (u8V c) := row_setCells0 y4
      have x0 : (W3.setCells wr.heap.size 0 (bL 4 c)).rowIs w.heap.size 70 16 (u8V f) := row_setCells_other y0 (by omega)
      have x1 : (W3.setCells wr.heap.size 0 (bL 4 c)).rowIs (w.heap.size + 1) 70 16 (u8V fun _ => 0) := row_setCells_other y1 (by omega)
      have x2 : (W3.setCells wr.heap.size 0 (bL 4 c)).rowIs (w.heap.size + 2) 70 16 (u8V h) := row_setCells_other y2 (by omega)
      have xb : Below w.heap.size w (W3.setCells wr.heap.size 0 (bL 4 c)) := below_setCells' yb hsz
      generalize W3.setCells wr.heap.size 0 (bL 4 c) = W4 at *
      clear y4 y0 y1 y2 yb hth
      have hmin := hide (show 4 = Nat.min 4 (16 - q) by show 4 = min 4 (16 - q); omega)
      have hrg := row_range0 (w := W4.drew) x4
      have hth := row_there (w := W4.drew) (o := q) (n := 4) x2 (by omega)
      go_region_law (refine step_copy_B rfl _ _ 22 22 rfl 5 Tryz.underlying22 (by kernel_rfl) (w.heap.size + 2) q (16 - q) (16 - q) wr.heap.size 0 4 4 rfl rfl 4 c hmin.out hrg hth ?_)
      clear hrg hth w4 hnc hmin
      go_wp2_with fail
      go_roundw
      case rel =>
        refine ⟨m + 1, _, by omega, by go_num, fun j hj => ?_, row_setCells_other x0.drew (by omega), row_setCells_other x1.drew (by omega), row_setCells x2.drew (by omega), below_setCells' xb.drew (by omega)⟩
        show (if q ≤ j ∧ j < q + 4 then c (j - q) else h j) = _
        have hQ := HQ.out
        by_cases e : q ≤ j ∧ j < q + 4
        · rw [if_pos e, HC.out, colF_mix f k m (j - q) (by omega) (fun i hi => by rw [HK.out i hi, hQ]), mixF, show j / 4 = m by omega, show j % 4 = j - q by omega]
        · rw [if_neg e]; exact hh.out j (by omega)
      case measure => simp [intOf]; omega
    · have r2' : wr.rowIs (w.heap.size + 2) 70 16 (u8V (mixF f)) := r2.congr fun i hi => by rw [u8V, u8V, hh.out i (by omega)]
      have hth := row_there (o := 0) (n := 16) r1 (by omega)
      have hfin := row_setCells0 (k := mixF f) r1
      clear hh r2
      go_wp2_with (first | (refine wpList_load_B rfl 70 _ rfl (w.heap.size + 2) 0 rfl _ _ 16 _ (mixF f) _ r2' (by omega) (fun j _ => by rw [Nat.zero_add]) Tryz.underlying70 rfl Tryz.size16 ?_) | (refine wpList_store_B rfl 70 _ _ rfl (w.heap.size + 1) 0 16 (mixF f) rfl rfl hth Tryz.size16 ?_))
      exact bodyPost_ret (ret_B Tryz.results76 _ _ (w.heap.size + 1) 16 _ _ _ rfl hfin Tryz.underlying70 rfl Tryz.size16) rfl ⟨rfl, below_setCells' hbl (by omega)⟩
end Go.Proofs.YtconcnndghmdfaaGreatDoor
