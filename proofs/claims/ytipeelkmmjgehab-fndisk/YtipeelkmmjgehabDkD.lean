/- The walk over the program's DiskRead (written by mkdkd.py). -/
import Derived.Test.YtipeelkmmjgehabDkVw
import Derived.Test.YtipeelkmmjgehabDskD
namespace Go.Proofs.Ytipeelkmmjgehab
open Go Go.RowKit
theorem row_news {w : World} {g t : Nat} {f : Nat → UInt8} (h : w.rowIs g t 64 (u8V f)) : ∀ j u, (bL 64 f)[j]? = some u → w.cell? ((⟨g, 0, none⟩ : Addr).add j) = some u := fun j u hu => by
  obtain ⟨hj, rfl⟩ := bL_get hu
  have e : (⟨g, 0, none⟩ : Addr).add j = ⟨g, j, none⟩ := by by_cases hz : j = 0 <;> simp [Addr.add, hz]
  rw [e]; exact h.cell (i := j) hj
theorem bytes_bL {t : ByteArray} (h : t.size = 64) : t.data.toList.map byteV = bL 64 (bF t) := by
  apply List.ext_getElem?
  intro j
  by_cases hj : j < 64
  · rw [List.getElem?_map, bF_at t 64 h j hj, bL_at 64 (bF t) j hj]; rfl
  · rw [List.getElem?_eq_none (by rw [List.length_map]; show t.size ≤ j; omega), List.getElem?_eq_none (by rw [bL_len]; omega)]
set_option maxRecDepth 100000 in
set_option maxHeartbeats 1600000 in
theorem imp_diskRead_form (v : Value) (nS : Nat) (S : Nat → ByteArray) (nC : Nat) (A : Nat → Int) (X : Nat → ByteArray) (a m : Int) (w : World) (hS : nS ≤ 1048576) (hC : nC ≤ 1048576) (hno : ¬ dskOk nS S nC A X) (h : dskI w w.heap.size v nS S nC A X) :
    Calls Try.prog 12 #[v, .int .i64 a, .int .i64 m] w fun e w' => e = .returned (doutV (.slice none 0 0) (.slice none 0 0) ⟨#[]⟩ 1) ∧ Below w.heap.size w w' := by
  obtain ⟨sv, cv, rfl, hs, hc⟩ := h
  have HI := hide (show dskI w w.heap.size (.agg #[sv, cv]) nS S nC A X from ⟨sv, cv, rfl, hs, hc⟩)
  obtain ⟨sa, sk, e1⟩ : ∃ a c, sv = .slice a nS c := by obtain ⟨a, c, e, _⟩ := hs; exact ⟨a, c, e⟩
  obtain ⟨ca, ck, e2⟩ : ∃ a c, cv = .slice a nC c := by obtain ⟨a, c, e, _⟩ := hc; exact ⟨a, c, e⟩
  subst e1 e2
  clear hs hc
  obtain ⟨q0, q1, q2, q3⟩ := box2 w (.cells #[.slice sa nS sk, .slice ca nC ck] 26) (.cells #[.slice none 0 0, .slice none 0 0, .string ⟨#[]⟩, .int .i64 0] 30)
  have HQ := hide (And.intro q0 (And.intro q1 (And.intro q2 q3)))
  clear q0 q1 q2 q3
  have HNO := hide hno
  clear hno
  go_enter Try.func12, Try.ntmps12
  go_wp2_with fail
  obtain ⟨q0, q1, q2, q3⟩ := HQ.out
  generalize ((w.alloc (.cells #[.slice sa nS sk, .slice ca nC ck] 26)).alloc (.cells #[.slice none 0 0, .slice none 0 0, .string ⟨#[]⟩, .int .i64 0] 30)) = W2 at *
  have I2 : dskI W2 W2.heap.size (.agg #[.slice sa nS sk, .slice ca nC ck]) nS S nC A X := (HI.out.below q0).wide (by omega)
  refine (imp_diskRight _ nS S nC A X W2 hS hC I2).mono ?_
  rintro e w1 ⟨⟨r, rfl, hr⟩, hb1⟩
  obtain rfl : r = false := by cases r; rfl; exact absurd (hr.1 rfl) HNO.out
  have hsz1 := hb1.size
  have r2 := (hb1.block w.heap.size (by omega)).trans q2
  have r3 := (hb1.block (w.heap.size + 1) (by omega)).trans q3
  have b0 : w1.cell? ⟨w.heap.size, 0, none⟩ = some (.slice sa nS sk) := by simp [World.cell?, r2]
  have b1 : w1.cell? ⟨w.heap.size, 1, none⟩ = some (.slice ca nC ck) := by simp [World.cell?, r2]
  have c0 : w1.cell? ⟨w.heap.size + 1, 0, none⟩ = some (.slice none 0 0) := by simp [World.cell?, r3]
  have f0 : w1.frozen? ⟨w.heap.size + 1, 0, none⟩ = false := by simp [World.frozen?, r3]
  have c1 : w1.cell? ⟨w.heap.size + 1, 1, none⟩ = some (.slice none 0 0) := by simp [World.cell?, r3]
  have f1 : w1.frozen? ⟨w.heap.size + 1, 1, none⟩ = false := by simp [World.frozen?, r3]
  have c2 : w1.cell? ⟨w.heap.size + 1, 2, none⟩ = some (.string ⟨#[]⟩) := by simp [World.cell?, r3]
  have f2 : w1.frozen? ⟨w.heap.size + 1, 2, none⟩ = false := by simp [World.frozen?, r3]
  have c3 : w1.cell? ⟨w.heap.size + 1, 3, none⟩ = some (.int .i64 0) := by simp [World.cell?, r3]
  have f3 : w1.frozen? ⟨w.heap.size + 1, 3, none⟩ = false := by simp [World.frozen?, r3]
  have HR := hide r3
  have HB := hide (q0.trans (hb1.mono (by omega)))
  clear hr hb1 q0 q1 q2 q3 I2 HQ r3 r2 b0 b1
  go_wp2_with fail
  have fin := set4_blk w1 (w.heap.size + 1) _ _ _ _ (.slice none 0 0) (.slice none 0 0) (.string ⟨#[]⟩) (.int .i64 1) _ HR.out
  have hbf := below_set4 HB.out (w.heap.size + 1) (by omega) (.slice none 0 0) (.slice none 0 0) (.string ⟨#[]⟩) (.int .i64 1)
  exact bodyPost_ret (results_cell_row Try.results12 _ _ (w.heap.size + 1) 30 #[.slice none 0 0, .slice none 0 0, .string ⟨#[]⟩, .int .i64 1] (0, 0) _ rfl fin Try.underlying30 rfl (by kernel_rfl)) rfl ⟨rfl, hbf⟩
set_option maxRecDepth 100000 in
set_option maxHeartbeats 1600000 in
theorem imp_diskRead_range (v : Value) (nS : Nat) (S : Nat → ByteArray) (nC : Nat) (A : Nat → Int) (X : Nat → ByteArray) (a m : Int) (w : World) (hok : dskOk nS S nC A X) (hno : ¬ readOk nS a m) (h : dskI w w.heap.size v nS S nC A X) :
    Calls Try.prog 12 #[v, .int .i64 a, .int .i64 m] w fun e w' => e = .returned (doutV (.slice none 0 0) (.slice none 0 0) ⟨#[]⟩ 8) ∧ Below w.heap.size w w' := by
  obtain ⟨sv, cv, rfl, hs, hc⟩ := h
  have HI := hide (show dskI w w.heap.size (.agg #[sv, cv]) nS S nC A X from ⟨sv, cv, rfl, hs, hc⟩)
  obtain ⟨sa, sk, e1⟩ : ∃ a c, sv = .slice a nS c := by obtain ⟨a, c, e, _⟩ := hs; exact ⟨a, c, e⟩
  obtain ⟨ca, ck, e2⟩ : ∃ a c, cv = .slice a nC c := by obtain ⟨a, c, e, _⟩ := hc; exact ⟨a, c, e⟩
  subst e1 e2
  clear hs hc
  obtain ⟨q0, q1, q2, q3⟩ := box2 w (.cells #[.slice sa nS sk, .slice ca nC ck] 26) (.cells #[.slice none 0 0, .slice none 0 0, .string ⟨#[]⟩, .int .i64 0] 30)
  have HQ := hide (And.intro q0 (And.intro q1 (And.intro q2 q3)))
  clear q0 q1 q2 q3
  have hS : nS ≤ 1048576 := by have := hok.1; omega
  have hC : nC ≤ 1048576 := by have := hok.2.1; omega
  have hn6 := hok.1
  have hn4 := hok.2.1
  have HOK := hide hok
  clear hok
  have HNO := hide hno
  clear hno
  by_cases g1 : m < 0
  · have d1 : decide (m < 0) = true := decide_eq_true g1
    go_enter Try.func12, Try.ntmps12
    go_wp2_with fail
    obtain ⟨q0, q1, q2, q3⟩ := HQ.out
    generalize ((w.alloc (.cells #[.slice sa nS sk, .slice ca nC ck] 26)).alloc (.cells #[.slice none 0 0, .slice none 0 0, .string ⟨#[]⟩, .int .i64 0] 30)) = W2 at *
    have I2 : dskI W2 W2.heap.size (.agg #[.slice sa nS sk, .slice ca nC ck]) nS S nC A X := (HI.out.below q0).wide (by omega)
    refine (imp_diskRight _ nS S nC A X W2 hS hC I2).mono ?_
    rintro e w1 ⟨⟨r, rfl, hr⟩, hb1⟩
    obtain rfl : r = true := hr.2 HOK.out
    have hsz1 := hb1.size
    have r2 := (hb1.block w.heap.size (by omega)).trans q2
    have r3 := (hb1.block (w.heap.size + 1) (by omega)).trans q3
    have b0 : w1.cell? ⟨w.heap.size, 0, none⟩ = some (.slice sa nS sk) := by simp [World.cell?, r2]
    have b1 : w1.cell? ⟨w.heap.size, 1, none⟩ = some (.slice ca nC ck) := by simp [World.cell?, r2]
    have c0 : w1.cell? ⟨w.heap.size + 1, 0, none⟩ = some (.slice none 0 0) := by simp [World.cell?, r3]
    have f0 : w1.frozen? ⟨w.heap.size + 1, 0, none⟩ = false := by simp [World.frozen?, r3]
    have c1 : w1.cell? ⟨w.heap.size + 1, 1, none⟩ = some (.slice none 0 0) := by simp [World.cell?, r3]
    have f1 : w1.frozen? ⟨w.heap.size + 1, 1, none⟩ = false := by simp [World.frozen?, r3]
    have c2 : w1.cell? ⟨w.heap.size + 1, 2, none⟩ = some (.string ⟨#[]⟩) := by simp [World.cell?, r3]
    have f2 : w1.frozen? ⟨w.heap.size + 1, 2, none⟩ = false := by simp [World.frozen?, r3]
    have c3 : w1.cell? ⟨w.heap.size + 1, 3, none⟩ = some (.int .i64 0) := by simp [World.cell?, r3]
    have f3 : w1.frozen? ⟨w.heap.size + 1, 3, none⟩ = false := by simp [World.frozen?, r3]
    have HR := hide r3
    have HB := hide (q0.trans (hb1.mono (by omega)))
    have c00 : w1.heap[w.heap.size]? = some (.cells #[.slice sa nS sk, .slice ca nC ck] 26) := r2
    have R2 := hide c00
    clear hr hb1 q0 q1 q2 q3 I2 HQ r3 r2 c00
    go_wp2_with fail
    have fin := set4_blk w1 (w.heap.size + 1) _ _ _ _ (.slice none 0 0) (.slice none 0 0) (.string ⟨#[]⟩) (.int .i64 8) _ HR.out
    have hbf := below_set4 HB.out (w.heap.size + 1) (by omega) (.slice none 0 0) (.slice none 0 0) (.string ⟨#[]⟩) (.int .i64 8)
    exact bodyPost_ret (results_cell_row Try.results12 _ _ (w.heap.size + 1) 30 #[.slice none 0 0, .slice none 0 0, .string ⟨#[]⟩, .int .i64 8] (0, 0) _ rfl fin Try.underlying30 rfl (by kernel_rfl)) rfl ⟨rfl, hbf⟩
  have d1 : decide (m < 0) = false := decide_eq_false g1
  by_cases g2 : 300 < m
  · have d2 : decide (300 < m) = true := decide_eq_true g2
    go_enter Try.func12, Try.ntmps12
    go_wp2_with fail
    obtain ⟨q0, q1, q2, q3⟩ := HQ.out
    generalize ((w.alloc (.cells #[.slice sa nS sk, .slice ca nC ck] 26)).alloc (.cells #[.slice none 0 0, .slice none 0 0, .string ⟨#[]⟩, .int .i64 0] 30)) = W2 at *
    have I2 : dskI W2 W2.heap.size (.agg #[.slice sa nS sk, .slice ca nC ck]) nS S nC A X := (HI.out.below q0).wide (by omega)
    refine (imp_diskRight _ nS S nC A X W2 hS hC I2).mono ?_
    rintro e w1 ⟨⟨r, rfl, hr⟩, hb1⟩
    obtain rfl : r = true := hr.2 HOK.out
    have hsz1 := hb1.size
    have r2 := (hb1.block w.heap.size (by omega)).trans q2
    have r3 := (hb1.block (w.heap.size + 1) (by omega)).trans q3
    have b0 : w1.cell? ⟨w.heap.size, 0, none⟩ = some (.slice sa nS sk) := by simp [World.cell?, r2]
    have b1 : w1.cell? ⟨w.heap.size, 1, none⟩ = some (.slice ca nC ck) := by simp [World.cell?, r2]
    have c0 : w1.cell? ⟨w.heap.size + 1, 0, none⟩ = some (.slice none 0 0) := by simp [World.cell?, r3]
    have f0 : w1.frozen? ⟨w.heap.size + 1, 0, none⟩ = false := by simp [World.frozen?, r3]
    have c1 : w1.cell? ⟨w.heap.size + 1, 1, none⟩ = some (.slice none 0 0) := by simp [World.cell?, r3]
    have f1 : w1.frozen? ⟨w.heap.size + 1, 1, none⟩ = false := by simp [World.frozen?, r3]
    have c2 : w1.cell? ⟨w.heap.size + 1, 2, none⟩ = some (.string ⟨#[]⟩) := by simp [World.cell?, r3]
    have f2 : w1.frozen? ⟨w.heap.size + 1, 2, none⟩ = false := by simp [World.frozen?, r3]
    have c3 : w1.cell? ⟨w.heap.size + 1, 3, none⟩ = some (.int .i64 0) := by simp [World.cell?, r3]
    have f3 : w1.frozen? ⟨w.heap.size + 1, 3, none⟩ = false := by simp [World.frozen?, r3]
    have HR := hide r3
    have HB := hide (q0.trans (hb1.mono (by omega)))
    have c00 : w1.heap[w.heap.size]? = some (.cells #[.slice sa nS sk, .slice ca nC ck] 26) := r2
    have R2 := hide c00
    clear hr hb1 q0 q1 q2 q3 I2 HQ r3 r2 c00
    go_wp2_with fail
    have fin := set4_blk w1 (w.heap.size + 1) _ _ _ _ (.slice none 0 0) (.slice none 0 0) (.string ⟨#[]⟩) (.int .i64 8) _ HR.out
    have hbf := below_set4 HB.out (w.heap.size + 1) (by omega) (.slice none 0 0) (.slice none 0 0) (.string ⟨#[]⟩) (.int .i64 8)
    exact bodyPost_ret (results_cell_row Try.results12 _ _ (w.heap.size + 1) 30 #[.slice none 0 0, .slice none 0 0, .string ⟨#[]⟩, .int .i64 8] (0, 0) _ rfl fin Try.underlying30 rfl (by kernel_rfl)) rfl ⟨rfl, hbf⟩
  have d2 : decide (300 < m) = false := decide_eq_false g2
  go_enter Try.func12, Try.ntmps12
  go_wp2_with fail
  obtain ⟨q0, q1, q2, q3⟩ := HQ.out
  generalize ((w.alloc (.cells #[.slice sa nS sk, .slice ca nC ck] 26)).alloc (.cells #[.slice none 0 0, .slice none 0 0, .string ⟨#[]⟩, .int .i64 0] 30)) = W2 at *
  have I2 : dskI W2 W2.heap.size (.agg #[.slice sa nS sk, .slice ca nC ck]) nS S nC A X := (HI.out.below q0).wide (by omega)
  refine (imp_diskRight _ nS S nC A X W2 hS hC I2).mono ?_
  rintro e w1 ⟨⟨r, rfl, hr⟩, hb1⟩
  obtain rfl : r = true := hr.2 HOK.out
  have hsz1 := hb1.size
  have r2 := (hb1.block w.heap.size (by omega)).trans q2
  have r3 := (hb1.block (w.heap.size + 1) (by omega)).trans q3
  have b0 : w1.cell? ⟨w.heap.size, 0, none⟩ = some (.slice sa nS sk) := by simp [World.cell?, r2]
  have b1 : w1.cell? ⟨w.heap.size, 1, none⟩ = some (.slice ca nC ck) := by simp [World.cell?, r2]
  have c0 : w1.cell? ⟨w.heap.size + 1, 0, none⟩ = some (.slice none 0 0) := by simp [World.cell?, r3]
  have f0 : w1.frozen? ⟨w.heap.size + 1, 0, none⟩ = false := by simp [World.frozen?, r3]
  have c1 : w1.cell? ⟨w.heap.size + 1, 1, none⟩ = some (.slice none 0 0) := by simp [World.cell?, r3]
  have f1 : w1.frozen? ⟨w.heap.size + 1, 1, none⟩ = false := by simp [World.frozen?, r3]
  have c2 : w1.cell? ⟨w.heap.size + 1, 2, none⟩ = some (.string ⟨#[]⟩) := by simp [World.cell?, r3]
  have f2 : w1.frozen? ⟨w.heap.size + 1, 2, none⟩ = false := by simp [World.frozen?, r3]
  have c3 : w1.cell? ⟨w.heap.size + 1, 3, none⟩ = some (.int .i64 0) := by simp [World.cell?, r3]
  have f3 : w1.frozen? ⟨w.heap.size + 1, 3, none⟩ = false := by simp [World.frozen?, r3]
  have HR := hide r3
  have HB := hide (q0.trans (hb1.mono (by omega)))
  have c00 : w1.heap[w.heap.size]? = some (.cells #[.slice sa nS sk, .slice ca nC ck] 26) := r2
  have R2 := hide c00
  clear hr hb1 q0 q1 q2 q3 I2 HQ r3 r2 c00
  go_wp2_with fail
  refine (imp_isThere sa ca nS sk nC ck a m w1 hS (by omega) (by omega)).mono ?_
  rintro e w2 ⟨⟨r, rfl, hr⟩, hb2⟩
  obtain rfl : r = false := by cases r; rfl; exact absurd (show readOk nS a m from ⟨by omega, by omega, (hr.1 rfl).1, (hr.1 rfl).2⟩) HNO.out
  have hw1 := hsz1
  have r3b := (hb2.block (w.heap.size + 1) (by have := World.block_lt_of_cell? w1 _ c0; exact this)).trans HR.out
  clear c0 c1 c2 c3 f0 f1 f2 f3
  have c0 : w2.cell? ⟨w.heap.size + 1, 0, none⟩ = some (.slice none 0 0) := by simp [World.cell?, r3b]
  have f0 : w2.frozen? ⟨w.heap.size + 1, 0, none⟩ = false := by simp [World.frozen?, r3b]
  have c1 : w2.cell? ⟨w.heap.size + 1, 1, none⟩ = some (.slice none 0 0) := by simp [World.cell?, r3b]
  have f1 : w2.frozen? ⟨w.heap.size + 1, 1, none⟩ = false := by simp [World.frozen?, r3b]
  have c2 : w2.cell? ⟨w.heap.size + 1, 2, none⟩ = some (.string ⟨#[]⟩) := by simp [World.cell?, r3b]
  have f2 : w2.frozen? ⟨w.heap.size + 1, 2, none⟩ = false := by simp [World.frozen?, r3b]
  have c3 : w2.cell? ⟨w.heap.size + 1, 3, none⟩ = some (.int .i64 0) := by simp [World.cell?, r3b]
  have f3 : w2.frozen? ⟨w.heap.size + 1, 3, none⟩ = false := by simp [World.frozen?, r3b]
  have HB := hide (HB.out.trans (hb2.mono (by have := HB.out.size; omega)))
  have HR := hide r3b
  clear hb2 r3b hr
  go_wp2_with fail
  have fin := set4_blk w2 (w.heap.size + 1) _ _ _ _ (.slice none 0 0) (.slice none 0 0) (.string ⟨#[]⟩) (.int .i64 8) _ HR.out
  have hbf := below_set4 HB.out (w.heap.size + 1) (by omega) (.slice none 0 0) (.slice none 0 0) (.string ⟨#[]⟩) (.int .i64 8)
  exact bodyPost_ret (results_cell_row Try.results12 _ _ (w.heap.size + 1) 30 #[.slice none 0 0, .slice none 0 0, .string ⟨#[]⟩, .int .i64 8] (0, 0) _ rfl fin Try.underlying30 rfl (by kernel_rfl)) rfl ⟨rfl, hbf⟩
set_option maxRecDepth 100000 in
set_option maxHeartbeats 3200000 in
theorem imp_diskRead_good (v : Value) (nS : Nat) (S : Nat → ByteArray) (nC : Nat) (A : Nat → Int) (X : Nat → ByteArray) (a m : Nat) (w : World) (hok : dskOk nS S nC A X) (hr0 : readOk nS (a : Int) (m : Int)) (h : dskI w w.heap.size v nS S nC A X) :
    Calls Try.prog 12 #[v, .int .i64 (a : Int), .int .i64 (m : Int)] w fun e w' => e = .returned (doutV (.slice none 0 0) (.slice none 0 0) ⟨(catL (flS S A X (fun _ => true) nC) a m).toArray⟩ 0) ∧ Below w.heap.size w w' := by
  obtain ⟨i0, hi, hz0, hz1, hz2⟩ := info_parts Try.infoB8t
  obtain ⟨FF, hFF⟩ : ∃ FF, FF = flS S A X (fun _ => true) nC := ⟨_, rfl⟩
  have hFs : ∀ j, j < nS → (FF j).size = 64 := by rw [hFF]; exact flS_size S A X _ nS hok.2.2.1 nC (fun j hj => (hok.2.2.2 j hj).2.2)
  have hFl : ∀ j, FF j = (latM A X nC (j : Int)).getD (S j) := by rw [hFF]; exact flS_lat2 S A X nC
  rw [← hFF]
  have HFS := hide (And.intro hFs hFl)
  clear hFF hFs hFl
  obtain ⟨sv, cv, rfl, hs, hc⟩ := h
  have HI := hide (show dskI w w.heap.size (.agg #[sv, cv]) nS S nC A X from ⟨sv, cv, rfl, hs, hc⟩)
  obtain ⟨sa, sk, e1⟩ : ∃ a c, sv = .slice a nS c := by obtain ⟨a, c, e, _⟩ := hs; exact ⟨a, c, e⟩
  obtain ⟨ca, ck, e2⟩ : ∃ a c, cv = .slice a nC c := by obtain ⟨a, c, e, _⟩ := hc; exact ⟨a, c, e⟩
  subst e1 e2
  clear hs hc
  obtain ⟨q0, q1, q2, q3⟩ := box2 w (.cells #[.slice sa nS sk, .slice ca nC ck] 26) (.cells #[.slice none 0 0, .slice none 0 0, .string ⟨#[]⟩, .int .i64 0] 30)
  have HQ := hide (And.intro q0 (And.intro q1 (And.intro q2 q3)))
  clear q0 q1 q2 q3
  have hS : nS ≤ 1048576 := by have := hok.1; omega
  have hC : nC ≤ 1048576 := by have := hok.2.1; omega
  have hn6 := hok.1
  have hn4 := hok.2.1
  have HOK := hide hok
  clear hok
  obtain ⟨h1, h2, h3, h4⟩ := hr0
  have d1 : decide ((m : Int) < 0) = false := decide_eq_false (by omega)
  have d2 : decide ((300 : Int) < (m : Int)) = false := decide_eq_false (by omega)
  have d2n : decide (300 < m) = false := decide_eq_false (by omega)
  go_enter Try.func12, Try.ntmps12
  go_wp2_with fail
  obtain ⟨q0, q1, q2, q3⟩ := HQ.out
  generalize ((w.alloc (.cells #[.slice sa nS sk, .slice ca nC ck] 26)).alloc (.cells #[.slice none 0 0, .slice none 0 0, .string ⟨#[]⟩, .int .i64 0] 30)) = W2 at *
  have I2 : dskI W2 W2.heap.size (.agg #[.slice sa nS sk, .slice ca nC ck]) nS S nC A X := (HI.out.below q0).wide (by omega)
  refine (imp_diskRight _ nS S nC A X W2 hS hC I2).mono ?_
  rintro e w1 ⟨⟨r, rfl, hr⟩, hb1⟩
  obtain rfl : r = true := hr.2 HOK.out
  have hsz1 := hb1.size
  have r2 := (hb1.block w.heap.size (by omega)).trans q2
  have r3 := (hb1.block (w.heap.size + 1) (by omega)).trans q3
  have b0 : w1.cell? ⟨w.heap.size, 0, none⟩ = some (.slice sa nS sk) := by simp [World.cell?, r2]
  have b1 : w1.cell? ⟨w.heap.size, 1, none⟩ = some (.slice ca nC ck) := by simp [World.cell?, r2]
  have HQ2 := hide (And.intro r2 (And.intro r3 (q0.trans (hb1.mono (by omega)))))
  have HS1 := hide (((I2.below hb1).wide hsz1))
  clear hr hb1 q0 q1 q2 q3 I2 HQ r2 r3
  go_wp2_with fail
  refine (imp_isThere sa ca nS sk nC ck (a : Int) (m : Int) w1 hS (by omega) (by omega)).mono ?_
  rintro e w2 ⟨⟨r, rfl, hr⟩, hb2⟩
  obtain rfl : r = true := hr.2 ⟨by omega, h4⟩
  have hsz2 := hb2.size
  have hw1 : w.heap.size + 1 < w1.heap.size := by
    have := HQ2.out.2.1
    exact (Array.getElem?_eq_some_iff.1 this).1
  have t2 := (hb2.block w.heap.size (by omega)).trans HQ2.out.1
  have t3 := (hb2.block (w.heap.size + 1) hw1).trans HQ2.out.2.1
  have HQ3 := hide (And.intro t3 (HQ2.out.2.2.trans (hb2.mono (by omega))))
  clear b0 b1
  have b0 : w2.cell? ⟨w.heap.size, 0, none⟩ = some (.slice sa nS sk) := by simp [World.cell?, t2]
  have b1 : w2.cell? ⟨w.heap.size, 1, none⟩ = some (.slice ca nC ck) := by simp [World.cell?, t2]
  have HS2 := hide ((HS1.out.below hb2).wide hsz2)
  clear hr hb2 HQ2 HS1 t2 t3
  go_wp2_with fail
  refine (imp_viewOf _ nS S nC A X w2 HOK.out HS2.out).mono ?_
  rintro e w4 ⟨o, rfl, hv, hb4⟩
  obtain ⟨sa2, sk2, mb, rfl, _⟩ := id hv
  have hs4 := hb4.size
  have hw2 : w.heap.size + 1 < w2.heap.size := by omega
  have al0 : Below w4.heap.size w4 (w4.alloc (.cells #[.slice sa2 nS sk2, .map (some mb)] 74)) := (Below.refl _ _).alloc (Nat.le_refl _) _
  have al1 : (w4.alloc (.cells #[.slice sa2 nS sk2, .map (some mb)] 74)).heap[w4.heap.size]? = some (.cells #[.slice sa2 nS sk2, .map (some mb)] 74) := heap_alloc_new _ _
  have al2 : w4.heap.size < (w4.alloc (.cells #[.slice sa2 nS sk2, .map (some mb)] 74)).heap.size := by simp
  have F4 := hide (show (w4.alloc (.cells #[.slice sa2 nS sk2, .map (some mb)] 74)).heap[w.heap.size + 1]? = some (.cells #[.slice none 0 0, .slice none 0 0, .string ⟨#[]⟩, .int .i64 0] 30) ∧ (w4.alloc (.cells #[.slice sa2 nS sk2, .map (some mb)] 74)).heap[w4.heap.size]? = some (.cells #[.slice sa2 nS sk2, .map (some mb)] 74) ∧ Below w.heap.size w (w4.alloc (.cells #[.slice sa2 nS sk2, .map (some mb)] 74)) from ⟨(al0.block _ (by omega)).trans ((hb4.block _ hw2).trans HQ3.out.1), al1, HQ3.out.2.trans ((hb4.mono (by omega)).trans (al0.mono (by omega)))⟩)
  have HV4 := hide (show vwI (w4.alloc (.cells #[.slice sa2 nS sk2, .map (some mb)] 74)) w4.heap.size (.agg #[.slice sa2 nS sk2, .map (some mb)]) nS S nC (latM A X nC) from hv.below al0)
  clear hv hb4 HQ3 b0 b1 HS2 al0 al1
  go_wp2_with fail
  generalize (w4.alloc (.cells #[.slice sa2 nS sk2, .map (some mb)] 74)) = w5 at *
  go_loopw [8, 32] (fun bv i wx => ∃ k : Nat, k ≤ m ∧ i = .int .i64 (k : Int) ∧ Hid (wx.ownsRow w5.heap.size 5 1 bv (catL FF a k).length ((catL FF a k).map byteV)) ∧ Hid (wx.heap[w.heap.size + 1]? = some (.cells #[.slice none 0 0, .slice none 0 0, .string ⟨#[]⟩, .int .i64 0] 30) ∧ wx.heap[w4.heap.size]? = some (.cells #[.slice sa2 nS sk2, .map (some mb)] 74) ∧ Below w.heap.size w wx) ∧ Hid (vwI wx w4.heap.size (.agg #[.slice sa2 nS sk2, .map (some mb)]) nS S nC (latM A X nC)) ∧ w5.heap.size ≤ wx.heap.size) (fun _ i _ => m - (intOf i).toNat)
  case atStart => exact ⟨0, Nat.zero_le _, rfl, World.ownsRow_nil _ _ _ _, F4, HV4, Nat.le_refl _⟩
  case round =>
    clear F4 HV4
    obtain ⟨k, hk, rfl, hown, hst, HV, hsz⟩ := hrel
    obtain ⟨p, hp⟩ : ∃ p, p = a + k := ⟨_, rfl⟩
    have hlen : (catL FF a k).length = 64 * k := catL_len FF a k (fun j hj => HFS.out.1 _ (by omega))
    obtain ⟨L, hL⟩ : ∃ L, L = catL FF a k := ⟨_, rfl⟩
    obtain ⟨N, hN⟩ : ∃ N, N = 64 * k := ⟨_, rfl⟩
    have hN2 : N ≤ 19200 := by omega
    have HO : wr.ownsRow w5.heap.size 5 1 u8 N (L.map byteV) := by have h := hown.out; rw [hlen, ← hN, ← hL] at h; exact h
    obtain ⟨va, vc, hv⟩ := own_slice HO
    have HOW := hide HO
    have HLE := hide hL
    have HNE := hide hN
    have HLN := hide hlen
    subst hv
    clear hown HO hL hlen hN
    by_cases hlt : k < m
    · have hpn : p < nS := by omega
      have d1 : decide ((k : Int) < (m : Int)) = true := decide_eq_true (by omega)
      have d1n : decide (k < m) = true := decide_eq_true hlt
      have s1 : (a : Int) + (k : Int) = (p : Int) := by omega
      have hpb : (p : Int) ≤ 620 := by omega
      have HP := hide hp
      clear hp
      have v0 : wr.cell? ⟨w4.heap.size, 0, none⟩ = some (.slice sa2 nS sk2) := by have h := hst.out.2.1; simp [World.cell?, h]
      have v1 : wr.cell? ⟨w4.heap.size, 1, none⟩ = some (.map (some mb)) := by have h := hst.out.2.1; simp [World.cell?, h]
      obtain ⟨Y, hY⟩ : ∃ Y, Y = FF p := ⟨_, rfl⟩
      have hYs : Y.size = 64 := by rw [hY]; exact HFS.out.1 p hpn
      have hYl : Y = (latM A X nC (p : Int)).getD (S p) := by rw [hY]; exact HFS.out.2 p
      have HC := hide (imp_has _ nS S nC (latM A X nC) p Y wr hn6 hpn hYl hYs (HV.out.wide (by omega)))
      have HY := hide hY
      clear hY hYl
      go_wp2_with fail
      refine HC.out.mono ?_
      rintro e w6 ⟨rfl, hb6⟩
      have B6 := hide hb6
      have hz6 := hb6.size
      clear hb6 v0 v1 HC s1
      go_wp2_with (first | (with_reducible (show wpList _ _ _ ({ dst := _, op := .alloc _, type := _, pos := _, after := _, guard := _ } :: _) _ _); refine wpList_alloc_sec w6 rfl (some 10) rfl 66 rfl (Try.zero63 _) ?_; intro w7 hr7 hb7 hs7; have hs7a : w6.heap.size < w7.heap.size := (by omega); clear hs7) | (with_reducible (show wpList _ _ _ ({ dst := _, op := .store _ (.tmp 10) (.tmp 39), type := _, pos := _, after := _, guard := _ } :: _) _ _); refine wpList_store_sec w7 rfl 66 (.tmp 10) (.tmp 39) rfl w6.heap.size Y _ rfl rfl hr7 Try.size63 ?_; intro w8 hr8 hg8 hs8; have hs8a : w6.heap.size < w8.heap.size := (by omega); have B8 := hide (show Below wr.heap.size wr w8 from B6.out.trans ((show Below w6.heap.size w6 w8 from ⟨hg8.os.trans hb7.os, hg8.tape.trans hb7.tape, hg8.output.trans hb7.output, by omega, fun b hb => (hg8.block b (by omega) (by simp; omega)).trans (hb7.block b hb)⟩).mono B6.out.size)); clear hs8 hg8 hb7 hr7 hs7a) | (at_builtin; refine wpList_append_any _ rfl _ _ 22 rfl w5.heap.size 5 i0 (.int .u8 0) 1 1 Try.underlying22 hi hz0 hz1 hz2 rfl (by decide) (.slice va N vc) N _ rfl (own_of_block HOW.out (fun b hb => B8.out.block b (HOW.out.lt b hb).2)) (some ⟨w6.heap.size, 0, none⟩) 64 64 (bL 64 (bF Y)) rfl (by rw [bL_len]) (.inr ⟨_, rfl, row_news hr8⟩) (bL_one _ _) (by unfold maxLen; omega) (by omega) (by have := B8.out.size; omega) ?_; intro v9 w9 o9 g9 t9))
      have nb : ∀ b, b < w5.heap.size → some b ≠ (Value.slice va N vc).ownBlock := fun b h1 h2 => by have := (HOW.out.lt b h2.symm).1; omega
      have hsb := B8.out.size
      have q : ∀ b, b < w5.heap.size → w9.heap[b]? = wr.heap[b]? := fun b hb => (g9.block b (by omega) (nb b hb)).trans (B8.out.block b (by omega))
      have BW := hide (show Below w5.heap.size wr w9 from (B8.out.mono hsz).grown g9 (by omega) (fun x hx => (HOW.out.lt x hx).1))
      have R2 := hide (show w9.heap[w.heap.size + 1]? = some (.cells #[.slice none 0 0, .slice none 0 0, .string ⟨#[]⟩, .int .i64 0] 30) ∧ w9.heap[w4.heap.size]? = some (.cells #[.slice sa2 nS sk2, .map (some mb)] 74) ∧ Below w.heap.size w w9 from ⟨(q _ (by omega)).trans hst.out.1, (q _ (by omega)).trans hst.out.2.1, (hst.out.2.2.trans (B8.out.mono (by omega))).grown g9 (by omega) (fun x hx => by have := (HOW.out.lt x hx).1; omega)⟩)
      have R4 := hide (show vwI w9 w4.heap.size (.agg #[.slice sa2 nS sk2, .map (some mb)]) nS S nC (latM A X nC) from HV.out.below (BW.out.mono (by omega)))
      have R1 := hide (show w9.ownsRow w5.heap.size 5 1 v9 (catL FF a (k + 1)).length ((catL FF a (k + 1)).map byteV) from by
        have e1 : (catL FF a (k + 1)).length = N + 64 := by
          show (catL FF a k ++ (FF (a + k)).data.toList).length = _
          rw [List.length_append, HLN.out, ← HNE.out, ← HP.out, ← HY.out]; show N + Y.size = _; rw [hYs]
        rw [e1]
        show w9.ownsRow w5.heap.size 5 1 v9 (N + 64) ((catL FF a k ++ (FF (a + k)).data.toList).map byteV)
        rw [List.map_append, ← HLE.out, ← HP.out, ← HY.out, bytes_bL hYs]; exact o9)
      have R3 : w5.heap.size ≤ w9.heap.size := by have := g9.size; omega
      obtain ⟨va2, vn2, vc2, hv9⟩ : ∃ a n c, v9 = .slice a n c := by obtain ⟨a, c, e⟩ := own_slice o9; exact ⟨_, _, _, e⟩
      subst hv9
      have hkb : (k : Int) ≤ 300 := by omega
      clear o9 g9 t9 nb hst HOW q HV hsb BW
      go_wp2_with fail
      go_roundw
      case rel => exact ⟨k + 1, by omega, by go_num, R1, R2, R4, R3⟩
      case measure => simp [intOf]; omega
    · have hkm : k = m := by omega
      subst hkm
      have d1 : decide ((k : Int) < (k : Int)) = false := decide_eq_false (by omega)
      have d1n : decide (k < k) = false := decide_eq_false (by omega)
      have hO2 : wr.ownsRow w5.heap.size 5 1 (.slice va N vc) L.length (L.map byteV) := by
        have e : L.length = N := by rw [HLE.out, HLN.out, ← HNE.out]
        rw [e]; exact HOW.out
      obtain ⟨TX, hTX⟩ : ∃ TX : ByteArray, TX = ⟨L.toArray⟩ := ⟨_, rfl⟩
      have hcv := own_conv (P := Try.prog) hO2 Try.underlying22 Try.underlying5 Try.underlying9
      rw [← hTX] at hcv
      have HTX := hide hTX
      have r3 := hst.out.1
      have c0 : wr.cell? ⟨w.heap.size + 1, 0, none⟩ = some (.slice none 0 0) := by simp [World.cell?, r3]
      have f0 : wr.frozen? ⟨w.heap.size + 1, 0, none⟩ = false := by simp [World.frozen?, r3]
      have c1 : wr.cell? ⟨w.heap.size + 1, 1, none⟩ = some (.slice none 0 0) := by simp [World.cell?, r3]
      have f1 : wr.frozen? ⟨w.heap.size + 1, 1, none⟩ = false := by simp [World.frozen?, r3]
      have c2 : wr.cell? ⟨w.heap.size + 1, 2, none⟩ = some (.string ⟨#[]⟩) := by simp [World.cell?, r3]
      have f2 : wr.frozen? ⟨w.heap.size + 1, 2, none⟩ = false := by simp [World.frozen?, r3]
      have c3 : wr.cell? ⟨w.heap.size + 1, 3, none⟩ = some (.int .i64 0) := by simp [World.cell?, r3]
      have f3 : wr.frozen? ⟨w.heap.size + 1, 3, none⟩ = false := by simp [World.frozen?, r3]
      have HR := hide r3
      have HB := hide hst.out.2.2
      clear hO2 HOW hst hp r3 hTX HV
      go_wp2_with fail
      have fin := set4_blk wr (w.heap.size + 1) _ _ _ _ (.slice none 0 0) (.slice none 0 0) (.string TX) (.int .i64 0) _ HR.out
      have hbf := below_set4 HB.out (w.heap.size + 1) (by omega) (.slice none 0 0) (.slice none 0 0) (.string TX) (.int .i64 0)
      exact bodyPost_ret (results_cell_row Try.results12 _ _ (w.heap.size + 1) 30 #[.slice none 0 0, .slice none 0 0, .string TX, .int .i64 0] (0, 0) _ rfl fin Try.underlying30 rfl (by kernel_rfl)) rfl ⟨by rw [HTX.out, HLE.out]; rfl, hbf⟩
end Go.Proofs.Ytipeelkmmjgehab
