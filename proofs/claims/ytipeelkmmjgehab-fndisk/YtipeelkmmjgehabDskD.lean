/- The walks over the model's DiskRead. -/
import Derived.Test.YtipeelkmmjgehabDskB
namespace Go.Proofs.Ytipeelkmmjgehab
open Go Go.RowKit
set_option maxRecDepth 100000 in
set_option maxHeartbeats 1600000 in
theorem spec_diskRead_form (v : Value) (nS : Nat) (S : Nat → ByteArray) (nC : Nat) (A : Nat → Int) (X : Nat → ByteArray) (a m : Int) (w : World) (hS : nS ≤ 1048576) (hC : nC ≤ 1048576) (hno : ¬ dskOk nS S nC A X) (h : dskI w w.heap.size v nS S nC A X) :
    Calls Try.prog 17 #[v, .int .i64 a, .int .i64 m] w fun e w' => e = .returned (doutV (.slice none 0 0) (.slice none 0 0) ⟨#[]⟩ 1) ∧ Below w.heap.size w w' := by
  obtain ⟨sv, cv, rfl, hs, hc⟩ := h
  have HI := hide (show dskI w w.heap.size (.agg #[sv, cv]) nS S nC A X from ⟨sv, cv, rfl, hs, hc⟩)
  obtain ⟨sa, sk, e1⟩ : ∃ a c, sv = .slice a nS c := by obtain ⟨a, c, e, _⟩ := hs; exact ⟨a, c, e⟩
  obtain ⟨ca, ck, e2⟩ : ∃ a c, cv = .slice a nC c := by obtain ⟨a, c, e, _⟩ := hc; exact ⟨a, c, e⟩
  subst e1 e2
  have HNO := hide hno
  clear hs hc hno
  obtain ⟨q0, q1, q2, q3⟩ := box2 w (.cells #[.slice sa nS sk, .slice ca nC ck] 26) (.cells #[.slice none 0 0, .slice none 0 0, .string ⟨#[]⟩, .int .i64 0] 30)
  have HQ := hide (And.intro q0 (And.intro q1 (And.intro q2 q3)))
  clear q0 q1 q2 q3
  go_enter Try.func17, Try.ntmps17
  go_wp2_with fail
  obtain ⟨q0, q1, q2, q3⟩ := HQ.out
  generalize ((w.alloc (.cells #[.slice sa nS sk, .slice ca nC ck] 26)).alloc (.cells #[.slice none 0 0, .slice none 0 0, .string ⟨#[]⟩, .int .i64 0] 30)) = W2 at *
  have I2 : dskI W2 W2.heap.size (.agg #[.slice sa nS sk, .slice ca nC ck]) nS S nC A X := (HI.out.below q0).wide (by omega)
  refine (spec_diskRight _ nS S nC A X W2 hS hC I2).mono ?_
  rintro e w1 ⟨⟨r, rfl, hr⟩, hb1⟩
  obtain rfl : r = false := by cases r; rfl; exact absurd (hr.1 rfl) HNO.out
  have r3 := (hb1.block (w.heap.size + 1) (by omega)).trans q3
  have c0 : w1.cell? ⟨w.heap.size + 1, 0, none⟩ = some (.slice none 0 0) := by simp [World.cell?, r3]
  have c1 : w1.cell? ⟨w.heap.size + 1, 1, none⟩ = some (.slice none 0 0) := by simp [World.cell?, r3]
  have c2 : w1.cell? ⟨w.heap.size + 1, 2, none⟩ = some (.string ⟨#[]⟩) := by simp [World.cell?, r3]
  have c3 : w1.cell? ⟨w.heap.size + 1, 3, none⟩ = some (.int .i64 0) := by simp [World.cell?, r3]
  have f0 : w1.frozen? ⟨w.heap.size + 1, 0, none⟩ = false := by simp [World.frozen?, r3]
  have f1 : w1.frozen? ⟨w.heap.size + 1, 1, none⟩ = false := by simp [World.frozen?, r3]
  have f2 : w1.frozen? ⟨w.heap.size + 1, 2, none⟩ = false := by simp [World.frozen?, r3]
  have f3 : w1.frozen? ⟨w.heap.size + 1, 3, none⟩ = false := by simp [World.frozen?, r3]
  have HR := hide r3
  have HB := hide (q0.trans (hb1.mono (by omega)))
  clear hr hb1 q0 q1 q2 q3 I2 HQ r3
  go_wp2_with fail
  have fin := set4_blk w1 (w.heap.size + 1) _ _ _ _ (.slice none 0 0) (.slice none 0 0) (.string ⟨#[]⟩) (.int .i64 1) _ HR.out
  have hbf := below_set4 HB.out (w.heap.size + 1) (by omega) (.slice none 0 0) (.slice none 0 0) (.string ⟨#[]⟩) (.int .i64 1)
  exact bodyPost_ret (results_cell_row Try.results17 _ _ (w.heap.size + 1) 30 #[.slice none 0 0, .slice none 0 0, .string ⟨#[]⟩, .int .i64 1] (0, 0) _ rfl fin Try.underlying30 rfl (by kernel_rfl)) rfl ⟨rfl, hbf⟩
/- (by mkread8.py) -/
set_option maxRecDepth 100000 in
set_option maxHeartbeats 1600000 in
theorem spec_diskRead_range (v : Value) (nS : Nat) (S : Nat → ByteArray) (nC : Nat) (A : Nat → Int) (X : Nat → ByteArray) (a m : Int) (w : World) (hok : dskOk nS S nC A X) (hno : ¬ readOk nS a m) (h : dskI w w.heap.size v nS S nC A X) :
    Calls Try.prog 17 #[v, .int .i64 a, .int .i64 m] w fun e w' => e = .returned (doutV (.slice none 0 0) (.slice none 0 0) ⟨#[]⟩ 8) ∧ Below w.heap.size w w' := by
  obtain ⟨sv, cv, rfl, hs, hc⟩ := h
  have HI := hide (show dskI w w.heap.size (.agg #[sv, cv]) nS S nC A X from ⟨sv, cv, rfl, hs, hc⟩)
  obtain ⟨sa, sk, e1⟩ : ∃ a c, sv = .slice a nS c := by obtain ⟨a, c, e, _⟩ := hs; exact ⟨a, c, e⟩
  obtain ⟨ca, ck, e2⟩ : ∃ a c, cv = .slice a nC c := by obtain ⟨a, c, e, _⟩ := hc; exact ⟨a, c, e⟩
  subst e1 e2
  have HOK := hide hok
  have hn6 := hok.1
  have hS : nS ≤ 1048576 := by omega
  have hC : nC ≤ 1048576 := by have := hok.2.1; omega
  clear hs hc hok
  obtain ⟨q0, q1, q2, q3⟩ := box2 w (.cells #[.slice sa nS sk, .slice ca nC ck] 26) (.cells #[.slice none 0 0, .slice none 0 0, .string ⟨#[]⟩, .int .i64 0] 30)
  have HQ := hide (And.intro q0 (And.intro q1 (And.intro q2 q3)))
  clear q0 q1 q2 q3
  by_cases h1 : m < 0
  · have d1 : decide (m < 0) = true := decide_eq_true h1
    clear hno
    go_enter Try.func17, Try.ntmps17
    go_wp2_with fail
    obtain ⟨q0, q1, q2, q3⟩ := HQ.out
    generalize ((w.alloc (.cells #[.slice sa nS sk, .slice ca nC ck] 26)).alloc (.cells #[.slice none 0 0, .slice none 0 0, .string ⟨#[]⟩, .int .i64 0] 30)) = W2 at *
    have I2 : dskI W2 W2.heap.size (.agg #[.slice sa nS sk, .slice ca nC ck]) nS S nC A X := (HI.out.below q0).wide (by omega)
    refine (spec_diskRight _ nS S nC A X W2 hS hC I2).mono ?_
    rintro e w1 ⟨⟨r, rfl, hr⟩, hb1⟩
    obtain rfl : r = true := hr.2 HOK.out
    have hsz1 := hb1.size
    have r2 := (hb1.block w.heap.size (by omega)).trans q2
    have r3 := (hb1.block (w.heap.size + 1) (by omega)).trans q3
    have b0 : w1.cell? ⟨w.heap.size, 0, none⟩ = some (.slice sa nS sk) := by simp [World.cell?, r2]
    have b1 : w1.cell? ⟨w.heap.size, 1, none⟩ = some (.slice ca nC ck) := by simp [World.cell?, r2]
    have c0 : w1.cell? ⟨w.heap.size + 1, 0, none⟩ = some (.slice none 0 0) := by simp [World.cell?, r3]
    have f0 : w1.frozen? ⟨w.heap.size + 1, 0, none⟩ = false := by simp [World.frozen?, r3]
    have c1 : w1.cell? ⟨w.heap.size + 1, 1, none⟩ = some (.slice none 0 0) := by simp [World.cell?, r3]
    have f1 : w1.frozen? ⟨w.heap.size + 1, 1, none⟩ = false := by simp [World.frozen?, r3]
    have c2 : w1.cell? ⟨w.heap.size + 1, 2, none⟩ = some (.string ⟨#[]⟩) := by simp [World.cell?, r3]
    have f2 : w1.frozen? ⟨w.heap.size + 1, 2, none⟩ = false := by simp [World.frozen?, r3]
    have c3 : w1.cell? ⟨w.heap.size + 1, 3, none⟩ = some (.int .i64 0) := by simp [World.cell?, r3]
    have f3 : w1.frozen? ⟨w.heap.size + 1, 3, none⟩ = false := by simp [World.frozen?, r3]
    have HR := hide r3
    have HB := hide (q0.trans (hb1.mono (by omega)))
    clear hr hb1 q0 q1 q2 q3 I2 HQ r2 r3
    go_wp2_with fail
    have fin := set4_blk w1 (w.heap.size + 1) _ _ _ _ (.slice none 0 0) (.slice none 0 0) (.string ⟨#[]⟩) (.int .i64 8) _ HR.out
    have hbf := below_set4 HB.out (w.heap.size + 1) (by omega) (.slice none 0 0) (.slice none 0 0) (.string ⟨#[]⟩) (.int .i64 8)
    exact bodyPost_ret (results_cell_row Try.results17 _ _ (w.heap.size + 1) 30 #[.slice none 0 0, .slice none 0 0, .string ⟨#[]⟩, .int .i64 8] (0, 0) _ rfl fin Try.underlying30 rfl (by kernel_rfl)) rfl ⟨rfl, hbf⟩
  · have d1 : decide (m < 0) = false := decide_eq_false h1
    by_cases h2 : 300 < m
    · have d2 : decide (300 < m) = true := decide_eq_true h2
      clear hno
      go_enter Try.func17, Try.ntmps17
      go_wp2_with fail
      obtain ⟨q0, q1, q2, q3⟩ := HQ.out
      generalize ((w.alloc (.cells #[.slice sa nS sk, .slice ca nC ck] 26)).alloc (.cells #[.slice none 0 0, .slice none 0 0, .string ⟨#[]⟩, .int .i64 0] 30)) = W2 at *
      have I2 : dskI W2 W2.heap.size (.agg #[.slice sa nS sk, .slice ca nC ck]) nS S nC A X := (HI.out.below q0).wide (by omega)
      refine (spec_diskRight _ nS S nC A X W2 hS hC I2).mono ?_
      rintro e w1 ⟨⟨r, rfl, hr⟩, hb1⟩
      obtain rfl : r = true := hr.2 HOK.out
      have hsz1 := hb1.size
      have r2 := (hb1.block w.heap.size (by omega)).trans q2
      have r3 := (hb1.block (w.heap.size + 1) (by omega)).trans q3
      have b0 : w1.cell? ⟨w.heap.size, 0, none⟩ = some (.slice sa nS sk) := by simp [World.cell?, r2]
      have b1 : w1.cell? ⟨w.heap.size, 1, none⟩ = some (.slice ca nC ck) := by simp [World.cell?, r2]
      have c0 : w1.cell? ⟨w.heap.size + 1, 0, none⟩ = some (.slice none 0 0) := by simp [World.cell?, r3]
      have f0 : w1.frozen? ⟨w.heap.size + 1, 0, none⟩ = false := by simp [World.frozen?, r3]
      have c1 : w1.cell? ⟨w.heap.size + 1, 1, none⟩ = some (.slice none 0 0) := by simp [World.cell?, r3]
      have f1 : w1.frozen? ⟨w.heap.size + 1, 1, none⟩ = false := by simp [World.frozen?, r3]
      have c2 : w1.cell? ⟨w.heap.size + 1, 2, none⟩ = some (.string ⟨#[]⟩) := by simp [World.cell?, r3]
      have f2 : w1.frozen? ⟨w.heap.size + 1, 2, none⟩ = false := by simp [World.frozen?, r3]
      have c3 : w1.cell? ⟨w.heap.size + 1, 3, none⟩ = some (.int .i64 0) := by simp [World.cell?, r3]
      have f3 : w1.frozen? ⟨w.heap.size + 1, 3, none⟩ = false := by simp [World.frozen?, r3]
      have HR := hide r3
      have HB := hide (q0.trans (hb1.mono (by omega)))
      clear hr hb1 q0 q1 q2 q3 I2 HQ r2 r3
      go_wp2_with fail
      have fin := set4_blk w1 (w.heap.size + 1) _ _ _ _ (.slice none 0 0) (.slice none 0 0) (.string ⟨#[]⟩) (.int .i64 8) _ HR.out
      have hbf := below_set4 HB.out (w.heap.size + 1) (by omega) (.slice none 0 0) (.slice none 0 0) (.string ⟨#[]⟩) (.int .i64 8)
      exact bodyPost_ret (results_cell_row Try.results17 _ _ (w.heap.size + 1) 30 #[.slice none 0 0, .slice none 0 0, .string ⟨#[]⟩, .int .i64 8] (0, 0) _ rfl fin Try.underlying30 rfl (by kernel_rfl)) rfl ⟨rfl, hbf⟩
    · have d2 : decide (300 < m) = false := decide_eq_false h2
      by_cases h3 : a < 0
      · have d3 : decide (a < 0) = true := decide_eq_true h3
        clear hno
        go_enter Try.func17, Try.ntmps17
        go_wp2_with fail
        obtain ⟨q0, q1, q2, q3⟩ := HQ.out
        generalize ((w.alloc (.cells #[.slice sa nS sk, .slice ca nC ck] 26)).alloc (.cells #[.slice none 0 0, .slice none 0 0, .string ⟨#[]⟩, .int .i64 0] 30)) = W2 at *
        have I2 : dskI W2 W2.heap.size (.agg #[.slice sa nS sk, .slice ca nC ck]) nS S nC A X := (HI.out.below q0).wide (by omega)
        refine (spec_diskRight _ nS S nC A X W2 hS hC I2).mono ?_
        rintro e w1 ⟨⟨r, rfl, hr⟩, hb1⟩
        obtain rfl : r = true := hr.2 HOK.out
        have hsz1 := hb1.size
        have r2 := (hb1.block w.heap.size (by omega)).trans q2
        have r3 := (hb1.block (w.heap.size + 1) (by omega)).trans q3
        have b0 : w1.cell? ⟨w.heap.size, 0, none⟩ = some (.slice sa nS sk) := by simp [World.cell?, r2]
        have b1 : w1.cell? ⟨w.heap.size, 1, none⟩ = some (.slice ca nC ck) := by simp [World.cell?, r2]
        have c0 : w1.cell? ⟨w.heap.size + 1, 0, none⟩ = some (.slice none 0 0) := by simp [World.cell?, r3]
        have f0 : w1.frozen? ⟨w.heap.size + 1, 0, none⟩ = false := by simp [World.frozen?, r3]
        have c1 : w1.cell? ⟨w.heap.size + 1, 1, none⟩ = some (.slice none 0 0) := by simp [World.cell?, r3]
        have f1 : w1.frozen? ⟨w.heap.size + 1, 1, none⟩ = false := by simp [World.frozen?, r3]
        have c2 : w1.cell? ⟨w.heap.size + 1, 2, none⟩ = some (.string ⟨#[]⟩) := by simp [World.cell?, r3]
        have f2 : w1.frozen? ⟨w.heap.size + 1, 2, none⟩ = false := by simp [World.frozen?, r3]
        have c3 : w1.cell? ⟨w.heap.size + 1, 3, none⟩ = some (.int .i64 0) := by simp [World.cell?, r3]
        have f3 : w1.frozen? ⟨w.heap.size + 1, 3, none⟩ = false := by simp [World.frozen?, r3]
        have HR := hide r3
        have HB := hide (q0.trans (hb1.mono (by omega)))
        clear hr hb1 q0 q1 q2 q3 I2 HQ r2 r3
        go_wp2_with fail
        have fin := set4_blk w1 (w.heap.size + 1) _ _ _ _ (.slice none 0 0) (.slice none 0 0) (.string ⟨#[]⟩) (.int .i64 8) _ HR.out
        have hbf := below_set4 HB.out (w.heap.size + 1) (by omega) (.slice none 0 0) (.slice none 0 0) (.string ⟨#[]⟩) (.int .i64 8)
        exact bodyPost_ret (results_cell_row Try.results17 _ _ (w.heap.size + 1) 30 #[.slice none 0 0, .slice none 0 0, .string ⟨#[]⟩, .int .i64 8] (0, 0) _ rfl fin Try.underlying30 rfl (by kernel_rfl)) rfl ⟨rfl, hbf⟩
      · have d3 : decide (a < 0) = false := decide_eq_false h3
        have h4 : (nS : Int) - m < a := by
          by_cases h5 : (nS : Int) - m < a
          · exact h5
          · exact absurd ⟨by omega, by omega, by omega, by omega⟩ hno
        have d4 : decide ((nS : Int) - m < a) = true := decide_eq_true h4
        clear hno
        go_enter Try.func17, Try.ntmps17
        go_wp2_with fail
        obtain ⟨q0, q1, q2, q3⟩ := HQ.out
        generalize ((w.alloc (.cells #[.slice sa nS sk, .slice ca nC ck] 26)).alloc (.cells #[.slice none 0 0, .slice none 0 0, .string ⟨#[]⟩, .int .i64 0] 30)) = W2 at *
        have I2 : dskI W2 W2.heap.size (.agg #[.slice sa nS sk, .slice ca nC ck]) nS S nC A X := (HI.out.below q0).wide (by omega)
        refine (spec_diskRight _ nS S nC A X W2 hS hC I2).mono ?_
        rintro e w1 ⟨⟨r, rfl, hr⟩, hb1⟩
        obtain rfl : r = true := hr.2 HOK.out
        have hsz1 := hb1.size
        have r2 := (hb1.block w.heap.size (by omega)).trans q2
        have r3 := (hb1.block (w.heap.size + 1) (by omega)).trans q3
        have b0 : w1.cell? ⟨w.heap.size, 0, none⟩ = some (.slice sa nS sk) := by simp [World.cell?, r2]
        have b1 : w1.cell? ⟨w.heap.size, 1, none⟩ = some (.slice ca nC ck) := by simp [World.cell?, r2]
        have c0 : w1.cell? ⟨w.heap.size + 1, 0, none⟩ = some (.slice none 0 0) := by simp [World.cell?, r3]
        have f0 : w1.frozen? ⟨w.heap.size + 1, 0, none⟩ = false := by simp [World.frozen?, r3]
        have c1 : w1.cell? ⟨w.heap.size + 1, 1, none⟩ = some (.slice none 0 0) := by simp [World.cell?, r3]
        have f1 : w1.frozen? ⟨w.heap.size + 1, 1, none⟩ = false := by simp [World.frozen?, r3]
        have c2 : w1.cell? ⟨w.heap.size + 1, 2, none⟩ = some (.string ⟨#[]⟩) := by simp [World.cell?, r3]
        have f2 : w1.frozen? ⟨w.heap.size + 1, 2, none⟩ = false := by simp [World.frozen?, r3]
        have c3 : w1.cell? ⟨w.heap.size + 1, 3, none⟩ = some (.int .i64 0) := by simp [World.cell?, r3]
        have f3 : w1.frozen? ⟨w.heap.size + 1, 3, none⟩ = false := by simp [World.frozen?, r3]
        have HR := hide r3
        have HB := hide (q0.trans (hb1.mono (by omega)))
        clear hr hb1 q0 q1 q2 q3 I2 HQ r2 r3
        go_wp2_with fail
        have fin := set4_blk w1 (w.heap.size + 1) _ _ _ _ (.slice none 0 0) (.slice none 0 0) (.string ⟨#[]⟩) (.int .i64 8) _ HR.out
        have hbf := below_set4 HB.out (w.heap.size + 1) (by omega) (.slice none 0 0) (.slice none 0 0) (.string ⟨#[]⟩) (.int .i64 8)
        exact bodyPost_ret (results_cell_row Try.results17 _ _ (w.heap.size + 1) 30 #[.slice none 0 0, .slice none 0 0, .string ⟨#[]⟩, .int .i64 8] (0, 0) _ rfl fin Try.underlying30 rfl (by kernel_rfl)) rfl ⟨rfl, hbf⟩
set_option maxRecDepth 100000 in
set_option maxHeartbeats 1600000 in
theorem spec_diskRead_good (v : Value) (nS : Nat) (S : Nat → ByteArray) (nC : Nat) (A : Nat → Int) (X : Nat → ByteArray) (a m : Nat) (w : World) (hok : dskOk nS S nC A X) (hr0 : readOk nS (a : Int) (m : Int)) (h : dskI w w.heap.size v nS S nC A X) :
    Calls Try.prog 17 #[v, .int .i64 (a : Int), .int .i64 (m : Int)] w fun e w' => e = .returned (doutV (.slice none 0 0) (.slice none 0 0) ⟨(catL (flS S A X (fun _ => true) nC) a m).toArray⟩ 0) ∧ Below w.heap.size w w' := by
  obtain ⟨sv, cv, rfl, hs, hc⟩ := h
  have HI := hide (show dskI w w.heap.size (.agg #[sv, cv]) nS S nC A X from ⟨sv, cv, rfl, hs, hc⟩)
  obtain ⟨sa, sk, e1⟩ : ∃ a c, sv = .slice a nS c := by obtain ⟨a, c, e, _⟩ := hs; exact ⟨a, c, e⟩
  obtain ⟨ca, ck, e2⟩ : ∃ a c, cv = .slice a nC c := by obtain ⟨a, c, e, _⟩ := hc; exact ⟨a, c, e⟩
  subst e1 e2
  have HOK := hide hok
  have hn6 := hok.1
  have hS : nS ≤ 1048576 := by omega
  have hC : nC ≤ 1048576 := by have := hok.2.1; omega
  clear hs hc hok
  obtain ⟨q0, q1, q2, q3⟩ := box2 w (.cells #[.slice sa nS sk, .slice ca nC ck] 26) (.cells #[.slice none 0 0, .slice none 0 0, .string ⟨#[]⟩, .int .i64 0] 30)
  have HQ := hide (And.intro q0 (And.intro q1 (And.intro q2 q3)))
  clear q0 q1 q2 q3
  obtain ⟨h1, h2, h3, h4⟩ := hr0
  have d1 : decide ((m : Int) < 0) = false := decide_eq_false (by omega)
  have d2 : decide ((300 : Int) < (m : Int)) = false := decide_eq_false (by omega)
  have d2n : decide (300 < m) = false := decide_eq_false (by omega)
  have d3 : decide ((a : Int) < 0) = false := decide_eq_false (by omega)
  have d4 : decide ((nS : Int) - (m : Int) < (a : Int)) = false := decide_eq_false (by omega)
  go_enter Try.func17, Try.ntmps17
  go_wp2_with fail
  obtain ⟨q0, q1, q2, q3⟩ := HQ.out
  generalize ((w.alloc (.cells #[.slice sa nS sk, .slice ca nC ck] 26)).alloc (.cells #[.slice none 0 0, .slice none 0 0, .string ⟨#[]⟩, .int .i64 0] 30)) = W2 at *
  have I2 : dskI W2 W2.heap.size (.agg #[.slice sa nS sk, .slice ca nC ck]) nS S nC A X := (HI.out.below q0).wide (by omega)
  refine (spec_diskRight _ nS S nC A X W2 hS hC I2).mono ?_
  rintro e w1 ⟨⟨r, rfl, hr⟩, hb1⟩
  obtain rfl : r = true := hr.2 HOK.out
  have hsz1 := hb1.size
  have r2 := (hb1.block w.heap.size (by omega)).trans q2
  have r3 := (hb1.block (w.heap.size + 1) (by omega)).trans q3
  have b0 : w1.cell? ⟨w.heap.size, 0, none⟩ = some (.slice sa nS sk) := by simp [World.cell?, r2]
  have b1 : w1.cell? ⟨w.heap.size, 1, none⟩ = some (.slice ca nC ck) := by simp [World.cell?, r2]
  have I1 : dskI w1 w1.heap.size (.agg #[.slice sa nS sk, .slice ca nC ck]) nS S nC A X := (I2.below hb1).wide hsz1
  have ST := hide (spec_text _ nS S nC A X a m w1 HOK.out (by omega) (by omega) I1)
  obtain ⟨TX, hTX⟩ : ∃ TX : ByteArray, TX = ⟨(catL (flS S A X (fun _ => true) nC) a m).toArray⟩ := ⟨_, rfl⟩
  rw [← hTX] at ST
  have HTX := hide hTX
  have HR3 := hide r3
  have HB1 := hide (q0.trans (hb1.mono (by omega)))
  clear hr hb1 q0 q2 q3 I2 I1 HQ r2 r3 hTX
  go_wp2_with fail
  refine ST.out.mono ?_
  rintro e w2 ⟨rfl, hb2⟩
  have r3 := (hb2.block (w.heap.size + 1) (by omega)).trans HR3.out
  have c0 : w2.cell? ⟨w.heap.size + 1, 0, none⟩ = some (.slice none 0 0) := by simp [World.cell?, r3]
  have f0 : w2.frozen? ⟨w.heap.size + 1, 0, none⟩ = false := by simp [World.frozen?, r3]
  have c1 : w2.cell? ⟨w.heap.size + 1, 1, none⟩ = some (.slice none 0 0) := by simp [World.cell?, r3]
  have f1 : w2.frozen? ⟨w.heap.size + 1, 1, none⟩ = false := by simp [World.frozen?, r3]
  have c2 : w2.cell? ⟨w.heap.size + 1, 2, none⟩ = some (.string ⟨#[]⟩) := by simp [World.cell?, r3]
  have f2 : w2.frozen? ⟨w.heap.size + 1, 2, none⟩ = false := by simp [World.frozen?, r3]
  have c3 : w2.cell? ⟨w.heap.size + 1, 3, none⟩ = some (.int .i64 0) := by simp [World.cell?, r3]
  have f3 : w2.frozen? ⟨w.heap.size + 1, 3, none⟩ = false := by simp [World.frozen?, r3]
  have HR := hide r3
  have HB := hide (HB1.out.trans (hb2.mono (by omega)))
  clear hb2 r3 HR3 HB1 ST
  go_wp2_with fail
  have fin := set4_blk w2 (w.heap.size + 1) _ _ _ _ (.slice none 0 0) (.slice none 0 0) (.string TX) (.int .i64 0) _ HR.out
  have hbf := below_set4 HB.out (w.heap.size + 1) (by omega) (.slice none 0 0) (.slice none 0 0) (.string TX) (.int .i64 0)
  exact bodyPost_ret (results_cell_row Try.results17 _ _ (w.heap.size + 1) 30 #[.slice none 0 0, .slice none 0 0, .string TX, .int .i64 0] (0, 0) _ rfl fin Try.underlying30 rfl (by kernel_rfl)) rfl ⟨by rw [← HTX.out]; rfl, hbf⟩
end Go.Proofs.Ytipeelkmmjgehab
