/- The walk over the law FnNums. -/
import Derived.Test.YtiknoncalgifmaaDoorNumsAt
import Derived.Test.YtiknoncalgifmaaDoorDrawNums
namespace Go.Proofs.YtiknoncalgifmaaDoor
open Go.RowKit

theorem BytesIn.mono {w : World} {B B' : Nat} {a : Option Addr} {len : Nat} (h : BytesIn w B a len) (hB : B ≤ B') : BytesIn w B' a len := by
  rcases h with h | ⟨b, off, rfl, hb, hc⟩
  · exact .inl h
  · exact .inr ⟨b, off, rfl, by omega, hc⟩
theorem Laid.grown {w w1 : World} (h : Laid w) (hg : w.grownBy w1 none) : Laid w1 := h.below (grownBy_toBelow hg) h.pos
theorem field_num (x n c : Int) (w : World) : (Instr.field 26 (.agg #[.int .i64 x, .int .i64 n, .int .i64 c]) 2).run Tryd.prog w = .ok (.int .i64 c) w := by kernel_rfl
theorem field_text (x : ByteArray) (n c : Int) (w : World) : (Instr.field 31 (.agg #[.string x, .int .i64 n, .int .i64 c]) 2).run Tryd.prog w = .ok (.int .i64 c) w := by kernel_rfl
theorem notEmpty {s : ByteArray} (h : 0 < s.size) : s.toList.isEmpty = false := by
  rw [ByteArray.toList_eq]
  rw [← len_list] at h
  cases hs : s.data.toList with
  | nil => rw [hs] at h; simp at h
  | cons _ _ => rfl

set_option maxRecDepth 100000 in
set_option maxHeartbeats 3200000 in
theorem fnNums_main (a0 : Option Addr) (len0 cap0 : Nat) (a1 : Option Addr) (len1 cap1 : Nat) (w : World) (hg : Laid w) (hl0 : len0 ≤ 1048576) (hl1 : len1 ≤ 1048576) (hb0 : BytesIn w w.heap.size a0 len0) (hb1 : BytesIn w w.heap.size a1 len1) :
    Calls Tryd.prog 3 #[.slice a0 len0 cap0, .slice a1 len1 cap1] w fun e w' => e = .returned (.bool true) ∧ Below w.heap.size w w' := by
  have HB0 := hide hb0
  have HB1 := hide hb1
  have HL := hide hg
  have hl0' : (len0 : Int) ≤ 1048576 := by omega
  have hl1' : (len1 : Int) ≤ 1048576 := by omega
  clear hb0 hb1 hg
  go_enter Tryd.func3, Tryd.ntmps3
  go_wp2_with fail
  refine (drawPutNum_any _ a0 len0 cap0 hl0 HB0.out).mono ?_
  rintro e w1 ⟨n, rfl, n0, n1, hG1⟩
  go_wp2_with fail
  refine (impl_putNum n _ n0 n1).mono ?_
  rintro e w2 ⟨rfl, hB2⟩
  have hG2 := grownBy_none hG1 (below_grownBy hB2)
  clear hB2 hG1
  go_wp2_with fail
  refine (spec_putNum n _ n0 n1).mono ?_
  rintro e w3 ⟨rfl, hB3⟩
  have hG3 := grownBy_none hG2 (below_grownBy hB3)
  clear hB3 hG2
  have hE1 : (⟨(encNum (foldNum n)).toArray⟩ : ByteArray).data.toList = encNum (foldNum n) := by simp
  have hE2 : (⟨(encNum (foldNum n)).toArray⟩ : ByteArray).size ≤ 10 := by rw [size_mk]; have := fold_le n n0 n1; exact encNum_len10 _ (by omega)
  have hE3 : 1 ≤ (⟨(encNum (foldNum n)).toArray⟩ : ByteArray).size := by rw [size_mk]; exact List.length_pos_iff.2 (encNum_ne _)
  generalize (⟨(encNum (foldNum n)).toArray⟩ : ByteArray) = E at *
  have HE := hide hE1
  clear hE1
  go_wp2_with fail
  refine (getNum_xyz n E _ n0 n1 HE.out hE2).mono ?_
  rintro e w4 ⟨rfl, hB4⟩
  have hG4 := grownBy_none hG3 (below_grownBy hB4)
  clear hB4 hG3
  unfold numOut
  go_wp2_with fail
  refine (getNum_cut n E _ ?_ n0 n1 HE.out hE2).mono ?_
  · exact (HL.out.grown hG4).alloc _
  rintro e w5 ⟨rfl, hB5⟩
  have hG5 := grownBy_none (grownBy_alloc hG4 _) (below_grownBy hB5)
  clear hB5 hG4
  unfold numOut
  have hfn := field_num
  go_wp2_with fail
  clear hfn
  refine (drawPutText_any _ a1 len1 cap1 hl1 ((HB1.out.below (grownBy_toBelow hG5) (Nat.le_refl _)).mono (by have := hG5.size; omega))).mono ?_
  rintro e w6 ⟨u, rfl, hu, hG6'⟩
  have hG6 := grownBy_none hG5 hG6'
  clear hG6' hG5
  by_cases hlong : 20000 < u.size
  · go_wp2_with fail
    refine (impl_putText_long u _ hlong (by omega)).mono ?_
    rintro e wx ⟨rfl, rfl⟩
    go_wp2_with fail
    refine (spec_putText_long u _ hlong (by omega)).mono ?_
    rintro e wx ⟨rfl, rfl⟩
    go_wp2_with fail
    refine (spec_putText_long u _ hlong (by omega)).mono ?_
    rintro e wx ⟨rfl, rfl⟩
    go_wp2_with fail
    go_ret
    exact ⟨rfl, grownBy_toBelow hG6⟩
  · go_wp2_with fail
    refine (impl_putText u _ (by omega)).mono ?_
    rintro e w7 ⟨rfl, hB7⟩
    have hG7 := grownBy_none hG6 (below_grownBy hB7)
    clear hB7 hG6
    go_wp2_with fail
    refine (spec_putText u _ (by omega)).mono ?_
    rintro e w8 ⟨rfl, hB8⟩
    have hG8 := grownBy_none hG7 (below_grownBy hB8)
    clear hB8 hG7
    have hps := put_size u
    have hpl := num_len u.size (by omega)
    have hp1 : 0 < (encNum (foldNum u.size)).length := List.length_pos_iff.2 (encNum_ne _)
    have hP0 : 1 ≤ (putText u).size := by omega
    have hP1 : (putText u).size ≤ 20010 := by omega
    have hemp := notEmpty (s := putText u) (by omega)
    clear hps hpl hp1
    by_cases hbig : 20000 < (putText u).size + 1
    · have hbig' : 20000 < ((putText u).size : Int) + 1 := by omega
      go_wp2_with fail
      go_ret
      exact ⟨rfl, grownBy_toBelow hG8⟩
    · have hbig' : ((putText u).size : Int) + 1 ≤ 20000 := by omega
      go_wp2_with fail
      refine (getText_x u _ (by omega)).mono ?_
      rintro e w9 ⟨rfl, hB9⟩
      have hG9 := grownBy_none hG8 (below_grownBy hB9)
      clear hB9 hG8
      unfold textOut
      go_wp2_with fail
      refine (getText_cut u _ (HL.out.grown hG9) (by omega)).mono ?_
      rintro e w10 ⟨rfl, hB10⟩
      have hG10 := grownBy_none hG9 (below_grownBy hB10)
      clear hB10 hG9
      unfold textOut
      have hft := field_text
      go_wp2_with fail
      go_ret
      exact ⟨rfl, grownBy_toBelow hG10⟩
end Go.Proofs.YtiknoncalgifmaaDoor
