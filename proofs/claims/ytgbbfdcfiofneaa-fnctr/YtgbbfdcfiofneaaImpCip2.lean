/- The walk over the program's newCipher. -/
import Derived.Test.YtgbbfdcfiofneaaImpCip
namespace Go.Proofs.Ytgbbfdcfiofneaa
open Go.RowKit
attribute [local irreducible] times sbox dbl dU
/-- What a cipher's block holds: the box, and behind it the keys of the rounds. -/
def cipF (K : Nat → UInt8) (j : Nat) : UInt8 := if j < 256 then sbox j else K (j - 256)
set_option maxRecDepth 100000 in
set_option maxHeartbeats 1600000 in
theorem imp_cipher (key : ByteArray) (w : World) (hk16 : key.size = 16) :
    Calls Try.prog 28 #[.string key] w fun e w' => ∃ g, e = .returned (.pointer (some ⟨g, 0, none⟩)) ∧ w.heap.size ≤ g ∧ w'.rowIs g 59 432 (u8V (cipF (kB (bF key)))) ∧ Below w.heap.size w w' := by
  go_enter Try.func28, Try.ntmps28
  go_wp2_with fail
  refine (imp_table w).mono ?_
  rintro e w1 ⟨rfl, hb1⟩
  have hbt := hide (built_cip sbox)
  obtain ⟨f0, hf0⟩ : ∃ f : Nat → UInt8, f = fun j => if j < 256 then sbox j else 0 := ⟨_, rfl⟩
  rw [← hf0] at hbt
  have HF0 := hide (show ∀ j, j < 256 → f0 j = sbox j from fun j hj => by rw [hf0]; exact if_pos hj)
  clear hf0
  go_wp2_with (first | (with_reducible (show wpList _ _ _ ({ dst := _, op := .build _ _, type := _, pos := _, after := _, guard := _ } :: _) _ _); refine wpList_build_one rfl 59 0 _ rfl (.agg (bL 256 sbox).toArray) rfl _ hbt.out ?_))
  have x0 := row_alloc w1 59 432 f0
  have xb := hb1.alloc hb1.size (.cells (bL 432 f0).toArray 59)
  have hgw := hb1.size
  generalize w1.alloc (.cells (bL 432 f0).toArray 59) = W2 at *
  generalize w1.heap.size = g at *
  refine (imp_words g key W2 hk16 x0.lt (fun j hj => by rw [x0.cell (i := j) (by omega), u8V, HF0.out j hj])).mono ?_
  rintro e W3 ⟨rfl, hb3⟩
  have y0 := x0.of_block (hb3.block _ x0.lt)
  have yb := xb.trans (hb3.mono xb.size)
  obtain ⟨K, hK⟩ : ∃ K, K = kB (bF key) := ⟨_, rfl⟩
  rw [← hK]
  have HK := hide hK
  clear x0 xb hb3 hK hb1 hbt
  go_wp2_with fail
  go_loopw [12] (fun i wx => ∃ (m : Nat) (h : Nat → UInt8), m ≤ 44 ∧ i = .int .i64 m ∧ Hid (∀ j, j < 256 + 4 * m → h j = cipF K j) ∧ wx.rowIs g 59 432 (u8V h) ∧ Below w.heap.size w wx) (fun i _ => 44 - (intOf i).toNat)
  case atStart => exact ⟨0, f0, by omega, rfl, fun j hj => by rw [HF0.out j (by omega), cipF, if_pos (by omega)], y0, yb⟩
  case round =>
    clear y0 yb
    obtain ⟨m, h, hm, rfl, hh, r0, hbl⟩ := hrel
    by_cases hlt : m < 44
    · have hlt' : (m : Int) < 44 := by omega
      obtain ⟨L, hL⟩ : ∃ L : Nat → UInt8, L = fun j => K (4 * m + j) := ⟨_, rfl⟩
      have HL := hide (show ∀ j, L j = K (4 * m + j) from fun j => by rw [hL])
      have hidx : ∀ w, (Instr.index 69 (.agg (bL 176 K).toArray) (.int .i64 (m : Int))).run Try.prog w = .ok (.agg (bL 4 L).toArray) w := run_index_part 69 68 44 4 176 K L _ m Try.underlying69 Try.underlying68 rfl Try.size4 hlt rfl (fun j _ => HL.out j)
      have r2z := zeros8_row 4 wr #[Value.int .u8 0, Value.int .u8 0, Value.int .u8 0, Value.int .u8 0] 68 rfl
      have hst := run_stB (P := Try.prog) (k := L) (row_there (o := 0) (n := 4) r2z (by omega))
      have hgl := r0.lt
      have R0 := row_setCells_other (b := wr.heap.size) (o := 0) (vs := bL 4 L) (r0.alloc (.cells #[Value.int .u8 0, Value.int .u8 0, Value.int .u8 0, Value.int .u8 0] 68)) (by omega)
      have R2 := row_setCells0 (k := L) r2z
      have RB := below_setCells' (b := wr.heap.size) (o := 0) (vs := bL 4 L) (hbl.alloc hbl.size (.cells #[Value.int .u8 0, Value.int .u8 0, Value.int .u8 0, Value.int .u8 0] 68)) hbl.size
      clear hL r2z r0 hbl
      go_wp2_with fail
      clear hst hidx
      generalize (wr.alloc (.cells #[Value.int .u8 0, Value.int .u8 0, Value.int .u8 0, Value.int .u8 0] 68)).setCells wr.heap.size 0 (bL 4 L) = W5 at *
      generalize wr.heap.size = z at *
      obtain ⟨c, ec⟩ : ∃ x, x = m / 4 := ⟨_, rfl⟩
      obtain ⟨r, er⟩ : ∃ x, x = m % 4 := ⟨_, rfl⟩
      obtain ⟨o1, eo1⟩ : ∃ x, x = 256 + 16 * c := ⟨_, rfl⟩
      obtain ⟨x4, ex4⟩ : ∃ x, x = 4 * r := ⟨_, rfl⟩
      obtain ⟨o2, eo2⟩ : ∃ x, x = o1 + x4 := ⟨_, rfl⟩
      have t1 : (m : Int) / 4 = (c : Int) := by omega
      have t1' : (m : Int).tdiv 4 = (c : Int) := by rw [Int.tdiv_eq_ediv_of_nonneg (by omega)]; exact t1
      have t2 : (m : Int) % 4 = (r : Int) := by omega
      have t2' : (m : Int).tmod 4 = (r : Int) := by rw [Int.tmod_eq_emod_of_nonneg (by omega)]; exact t2
      have w1 : IntKind.i64.wrap (c : Int) = (c : Int) := by simp only [IntKind.wrap_i64]; omega
      have w2 : IntKind.i64.wrap (r : Int) = (r : Int) := by simp only [IntKind.wrap_i64]; omega
      have w3 : IntKind.i64.wrap (4 * (r : Int)) = (x4 : Int) := by simp only [IntKind.wrap_i64]; omega
      have c11 : (c : Int) < 11 := by omega
      have x12 : (x4 : Int) ≤ 16 := by omega
      have x16 : ¬ 16 = x4 := by omega
      have n1 : 256 + 16 * c = o1 := eo1.symm
      have n1' : 256 + c * 16 = o1 := by omega
      have n2 : o1 + x4 = o2 := eo2.symm
      have HO := hide (show o2 = 256 + 4 * m by omega)
      have hx12 : x4 ≤ 12 := by omega
      have hmin := hide (show 4 = Nat.min 4 (16 - x4) by show 4 = min 4 (16 - x4); omega)
      have hrg := row_range0 (w := W5.drew) R2
      have hth := row_there (w := W5.drew) (o := o2) (n := 4) R0 (by omega)
      clear ec er eo1 ex4 eo2
      go_region_held_law (fun _ => True) (trivial) (refine step_copy_B rfl (.tmp 25) (.tmp 26) 22 22 rfl 5 Try.underlying22 (by kernel_rfl) g o2 (16 - x4) (16 - x4) z 0 4 4 rfl rfl 4 L hmin.out hrg hth ?_)
      clear hrg hth hmin t1 t1' t2 t2' w1 w2 w3 c11 x16 n1 n1' n2
      go_wp2_with fail
      go_roundw
      case rel =>
        refine ⟨m + 1, _, by omega, by go_num, fun j hj => ?_, row_setCells R0.drew (by have := HO.out; omega), below_setCells' RB.drew hgw⟩
        show (if o2 ≤ j ∧ j < o2 + 4 then L (j - o2) else h j) = _
        have hO := HO.out
        by_cases e : o2 ≤ j ∧ j < o2 + 4
        · rw [if_pos e, HL.out, cipF, if_neg (by omega), show 4 * m + (j - o2) = j - 256 by omega]
        · rw [if_neg e]; exact hh.out j (by omega)
      case measure => simp [intOf]; omega
    · have hlt' : ¬ (m : Int) < 44 := by omega
      have r0' : wr.rowIs g 59 432 (u8V (cipF (kB (bF key)))) := r0.congr fun i hi => by rw [u8V, u8V, hh.out i (by omega), HK.out]
      clear hh
      go_wp2_with fail
      go_ret
      exact ⟨g, rfl, hgw, r0', hbl⟩
end Go.Proofs.Ytgbbfdcfiofneaa
