/- The walks over the model's l08Write out of range, or where the cache is full; and DiskWrite (written by mkdskx.py). -/
import Derived.Test.YtipeelkmmjgehabDskW
import Derived.Handy
namespace Go.Proofs.Ytipeelkmmjgehab
open Go Go.RowKit
set_option maxRecDepth 100000 in
set_option maxHeartbeats 1600000 in
theorem spec_write_range (v : Value) (nS : Nat) (S : Nat → ByteArray) (nC : Nat) (A : Nat → Int) (X : Nat → ByteArray) (a : Int) (t : ByteArray) (w : World) (hok : dskOk nS S nC A X) (hts : t.size ≤ 20000) (hno : a < 0 ∨ (nS : Int) - (manyW t : Int) < a) (h : dskI w w.heap.size v nS S nC A X) :
    Calls Try.prog 43 #[v, .int .i64 a, .string t] w fun e w' => e = .returned (doutV (.slice none 0 0) (.slice none 0 0) ⟨#[]⟩ 8) ∧ Below w.heap.size w w' := by
  obtain ⟨sv, cv, rfl, hs, hc⟩ := h
  have HI := hide (show dskI w w.heap.size (.agg #[sv, cv]) nS S nC A X from ⟨sv, cv, rfl, hs, hc⟩)
  obtain ⟨sa, sk, e1⟩ : ∃ a c, sv = .slice a nS c := by obtain ⟨a, c, e, _⟩ := hs; exact ⟨a, c, e⟩
  obtain ⟨ca, ck, e2⟩ : ∃ a c, cv = .slice a nC c := by obtain ⟨a, c, e, _⟩ := hc; exact ⟨a, c, e⟩
  subst e1 e2
  clear hs hc
  obtain ⟨m, hm⟩ : ∃ m, m = manyW t := ⟨_, rfl⟩
  rw [← hm] at hno
  have hm0 : m = (t.size + 63) / 64 := hm
  obtain ⟨z1, hz1⟩ : ∃ z1, z1 = t.size + 64 := ⟨_, rfl⟩
  obtain ⟨z2, hz2⟩ : ∃ z2, z2 = t.size + 63 := ⟨_, rfl⟩
  have s1 : (t.size : Int) + 64 = (z1 : Int) := by omega
  have s2 : (z1 : Int) - 1 = (z2 : Int) := by omega
  have z1b : (z1 : Int) ≤ 20544 := by omega
  have z2b : (z2 : Int) ≤ 20543 := by omega
  have z1p : 64 ≤ z1 := by omega
  have hm400 : (m : Int) ≤ 400 := by omega
  have s3 : (z2 : Int) / 64 = (m : Int) := by omega
  have s3t : Int.tdiv (z2 : Int) 64 = (m : Int) := by rw [Int.tdiv_eq_ediv_of_nonneg (by omega)]; exact s3
  have hn6 := hok.1
  have hn4 := hok.2.1
  clear hz1 hz2 hm hm0 hok
  obtain ⟨q0, q1, q2, q3⟩ := box2 w (.cells #[.slice sa nS sk, .slice ca nC ck] 26) (.cells #[.slice none 0 0, .slice none 0 0, .string ⟨#[]⟩, .int .i64 0] 30)
  have HQ := hide (And.intro q0 (And.intro q1 (And.intro q2 q3)))
  clear q0 q1 q2 q3
  by_cases h1 : a < 0
  · have d1 : decide (a < 0) = true := decide_eq_true h1
    clear hno HI
    clear HQ
    go_enter Try.func43, Try.ntmps43
    go_wp2_with fail
    go_returns
    exact ⟨rfl, by go_grown⟩
  · have d1 : decide (a < 0) = false := decide_eq_false h1
    have h2 : (nS : Int) - (m : Int) < a := by rcases hno with h | h; exact absurd h h1; exact h
    have d2 : decide ((nS : Int) - (m : Int) < a) = true := decide_eq_true h2
    clear hno HI
    clear HQ
    go_enter Try.func43, Try.ntmps43
    go_wp2_with fail
    go_returns
    exact ⟨rfl, by go_grown⟩
set_option maxRecDepth 100000 in
set_option maxHeartbeats 1600000 in
theorem spec_write_fullW (v : Value) (nS : Nat) (S : Nat → ByteArray) (nC : Nat) (A : Nat → Int) (X : Nat → ByteArray) (a : Int) (t : ByteArray) (w : World) (hok : dskOk nS S nC A X) (hts : t.size ≤ 20480) (ha : 0 ≤ a) (hno : a ≤ (nS : Int) - (manyW t : Int) ∧ 400 < nC + manyW t) (h : dskI w w.heap.size v nS S nC A X) :
    Calls Try.prog 43 #[v, .int .i64 a, .string t] w fun e w' => e = .returned (doutV (.slice none 0 0) (.slice none 0 0) ⟨#[]⟩ 9) ∧ Below w.heap.size w w' := by
  obtain ⟨sv, cv, rfl, hs, hc⟩ := h
  have HI := hide (show dskI w w.heap.size (.agg #[sv, cv]) nS S nC A X from ⟨sv, cv, rfl, hs, hc⟩)
  obtain ⟨sa, sk, e1⟩ : ∃ a c, sv = .slice a nS c := by obtain ⟨a, c, e, _⟩ := hs; exact ⟨a, c, e⟩
  obtain ⟨ca, ck, e2⟩ : ∃ a c, cv = .slice a nC c := by obtain ⟨a, c, e, _⟩ := hc; exact ⟨a, c, e⟩
  subst e1 e2
  clear hs hc
  obtain ⟨m, hm⟩ : ∃ m, m = manyW t := ⟨_, rfl⟩
  rw [← hm] at hno
  have hm0 : m = (t.size + 63) / 64 := hm
  obtain ⟨z1, hz1⟩ : ∃ z1, z1 = t.size + 64 := ⟨_, rfl⟩
  obtain ⟨z2, hz2⟩ : ∃ z2, z2 = t.size + 63 := ⟨_, rfl⟩
  have s1 : (t.size : Int) + 64 = (z1 : Int) := by omega
  have s2 : (z1 : Int) - 1 = (z2 : Int) := by omega
  have z1b : (z1 : Int) ≤ 20544 := by omega
  have z2b : (z2 : Int) ≤ 20543 := by omega
  have z1p : 64 ≤ z1 := by omega
  have hm400 : (m : Int) ≤ 400 := by omega
  have s3 : (z2 : Int) / 64 = (m : Int) := by omega
  have s3t : Int.tdiv (z2 : Int) 64 = (m : Int) := by rw [Int.tdiv_eq_ediv_of_nonneg (by omega)]; exact s3
  have hn6 := hok.1
  have hn4 := hok.2.1
  clear hz1 hz2 hm hm0 hok
  obtain ⟨q0, q1, q2, q3⟩ := box2 w (.cells #[.slice sa nS sk, .slice ca nC ck] 26) (.cells #[.slice none 0 0, .slice none 0 0, .string ⟨#[]⟩, .int .i64 0] 30)
  have HQ := hide (And.intro q0 (And.intro q1 (And.intro q2 q3)))
  clear q0 q1 q2 q3
  obtain ⟨h1, h2⟩ := hno
  have d1 : decide (a < 0) = false := decide_eq_false (by omega)
  have d2 : decide ((nS : Int) - (m : Int) < a) = false := decide_eq_false (by omega)
  have d3 : decide ((400 : Int) < (nC : Int) + (m : Int)) = true := decide_eq_true (by omega)
  clear HI
  clear HQ
  go_enter Try.func43, Try.ntmps43
  go_wp2_with fail
  go_returns
  exact ⟨rfl, by go_grown⟩
theorem spec_write_full (v : Value) (nS : Nat) (S : Nat → ByteArray) (nC : Nat) (A : Nat → Int) (X : Nat → ByteArray) (a : Int) (t : ByteArray) (w : World) (hok : dskOk nS S nC A X) (hts : t.size ≤ 20000) (ha : 0 ≤ a) (hno : a ≤ (nS : Int) - (manyW t : Int) ∧ 400 < nC + manyW t) (h : dskI w w.heap.size v nS S nC A X) :
    Calls Try.prog 43 #[v, .int .i64 a, .string t] w fun e w' => e = .returned (doutV (.slice none 0 0) (.slice none 0 0) ⟨#[]⟩ 9) ∧ Below w.heap.size w w' :=
  spec_write_fullW v nS S nC A X a t w hok (by omega) ha hno h
set_option maxRecDepth 100000 in
set_option maxHeartbeats 1600000 in
theorem spec_diskWrite_long (v : Value) (nS : Nat) (S : Nat → ByteArray) (nC : Nat) (A : Nat → Int) (X : Nat → ByteArray) (a : Int) (t : ByteArray) (w : World) (hts : 20000 < t.size) (htm : t.size ≤ 9223372036854775807) (h : dskI w w.heap.size v nS S nC A X) :
    Calls Try.prog 11 #[v, .int .i64 a, .string t] w fun e w' => e = .returned (doutV (.slice none 0 0) (.slice none 0 0) ⟨#[]⟩ 2) ∧ Below w.heap.size w w' := by
  obtain ⟨sv, cv, rfl, hs, hc⟩ := h
  have HI := hide (show dskI w w.heap.size (.agg #[sv, cv]) nS S nC A X from ⟨sv, cv, rfl, hs, hc⟩)
  obtain ⟨sa, sk, e1⟩ : ∃ a c, sv = .slice a nS c := by obtain ⟨a, c, e, _⟩ := hs; exact ⟨a, c, e⟩
  obtain ⟨ca, ck, e2⟩ : ∃ a c, cv = .slice a nC c := by obtain ⟨a, c, e, _⟩ := hc; exact ⟨a, c, e⟩
  subst e1 e2
  clear hs hc
  obtain ⟨q0, q1, q2, q3⟩ := box2 w (.cells #[.slice sa nS sk, .slice ca nC ck] 26) (.cells #[.slice none 0 0, .slice none 0 0, .string ⟨#[]⟩, .int .i64 0] 30)
  have HQ := hide (And.intro q0 (And.intro q1 (And.intro q2 q3)))
  clear q0 q1 q2 q3
  have d1 : decide ((20000 : Int) < (t.size : Int)) = true := decide_eq_true (by omega)
  clear HI
  clear HQ
  go_enter Try.func11, Try.ntmps11
  go_wp2_with fail
  go_returns
  exact ⟨rfl, by go_grown⟩
set_option maxRecDepth 100000 in
set_option maxHeartbeats 1600000 in
theorem spec_diskWrite_form (v : Value) (nS : Nat) (S : Nat → ByteArray) (nC : Nat) (A : Nat → Int) (X : Nat → ByteArray) (a : Int) (t : ByteArray) (w : World) (hts : t.size ≤ 20000) (hS : nS ≤ 1048576) (hC : nC ≤ 1048576) (hno : ¬ dskOk nS S nC A X) (h : dskI w w.heap.size v nS S nC A X) :
    Calls Try.prog 11 #[v, .int .i64 a, .string t] w fun e w' => e = .returned (doutV (.slice none 0 0) (.slice none 0 0) ⟨#[]⟩ 1) ∧ Below w.heap.size w w' := by
  obtain ⟨sv, cv, rfl, hs, hc⟩ := h
  have HI := hide (show dskI w w.heap.size (.agg #[sv, cv]) nS S nC A X from ⟨sv, cv, rfl, hs, hc⟩)
  obtain ⟨sa, sk, e1⟩ : ∃ a c, sv = .slice a nS c := by obtain ⟨a, c, e, _⟩ := hs; exact ⟨a, c, e⟩
  obtain ⟨ca, ck, e2⟩ : ∃ a c, cv = .slice a nC c := by obtain ⟨a, c, e, _⟩ := hc; exact ⟨a, c, e⟩
  subst e1 e2
  clear hs hc
  obtain ⟨q0, q1, q2, q3⟩ := box2 w (.cells #[.slice sa nS sk, .slice ca nC ck] 26) (.cells #[.slice none 0 0, .slice none 0 0, .string ⟨#[]⟩, .int .i64 0] 30)
  have HQ := hide (And.intro q0 (And.intro q1 (And.intro q2 q3)))
  clear q0 q1 q2 q3
  have HNO := hide hno
  clear hno
  go_enter Try.func11, Try.ntmps11
  go_wp2_with fail
  obtain ⟨q0, q1, q2, q3⟩ := HQ.out
  generalize ((w.alloc (.cells #[.slice sa nS sk, .slice ca nC ck] 26)).alloc (.cells #[.slice none 0 0, .slice none 0 0, .string ⟨#[]⟩, .int .i64 0] 30)) = W2 at *
  have I2 : dskI W2 W2.heap.size (.agg #[.slice sa nS sk, .slice ca nC ck]) nS S nC A X := (HI.out.below q0).wide (by omega)
  refine (spec_diskRight _ nS S nC A X W2 hS hC I2).mono ?_
  rintro e w1 ⟨⟨r, rfl, hr⟩, hb1⟩
  obtain rfl : r = false := by cases r; rfl; exact absurd (hr.1 rfl) HNO.out
  have r3 := (hb1.block (w.heap.size + 1) (by omega)).trans q3
  have c0 : w1.cell? ⟨w.heap.size + 1, 0, none⟩ = some (.slice none 0 0) := by simp [World.cell?, r3]
  have f0 : w1.frozen? ⟨w.heap.size + 1, 0, none⟩ = false := by simp [World.frozen?, r3]
  have c1 : w1.cell? ⟨w.heap.size + 1, 1, none⟩ = some (.slice none 0 0) := by simp [World.cell?, r3]
  have f1 : w1.frozen? ⟨w.heap.size + 1, 1, none⟩ = false := by simp [World.frozen?, r3]
  have c2 : w1.cell? ⟨w.heap.size + 1, 2, none⟩ = some (.string ⟨#[]⟩) := by simp [World.cell?, r3]
  have f2 : w1.frozen? ⟨w.heap.size + 1, 2, none⟩ = false := by simp [World.frozen?, r3]
  have c3 : w1.cell? ⟨w.heap.size + 1, 3, none⟩ = some (.int .i64 0) := by simp [World.cell?, r3]
  have f3 : w1.frozen? ⟨w.heap.size + 1, 3, none⟩ = false := by simp [World.frozen?, r3]
  have HR := hide r3
  have HB := hide (q0.trans (hb1.mono (by omega)))
  clear hr hb1 q0 q1 q2 q3 I2 HQ r3
  go_wp2_with fail
  have fin := set4_blk w1 (w.heap.size + 1) _ _ _ _ (.slice none 0 0) (.slice none 0 0) (.string ⟨#[]⟩) (.int .i64 1) _ HR.out
  have hbf := below_set4 HB.out (w.heap.size + 1) (by omega) (.slice none 0 0) (.slice none 0 0) (.string ⟨#[]⟩) (.int .i64 1)
  exact bodyPost_ret (results_cell_row Try.results11 _ _ (w.heap.size + 1) 30 #[.slice none 0 0, .slice none 0 0, .string ⟨#[]⟩, .int .i64 1] (0, 0) _ rfl fin Try.underlying30 rfl (by kernel_rfl)) rfl ⟨rfl, hbf⟩
set_option maxRecDepth 100000 in
set_option maxHeartbeats 1600000 in
theorem spec_diskWrite_ok (v : Value) (nS : Nat) (S : Nat → ByteArray) (nC : Nat) (A : Nat → Int) (X : Nat → ByteArray) (a : Int) (t : ByteArray) (w : World) (hts : t.size ≤ 20000) (hok : dskOk nS S nC A X) (h : dskI w w.heap.size v nS S nC A X) (Post : Value → Value → Int → World → World → Prop)
    (hW : ∀ (u : World) (x : Value), dskI u u.heap.size x nS S nC A X → Calls Try.prog 43 #[x, .int .i64 a, .string t] u fun e w' => ∃ sv cv c, e = .returned (doutV sv cv ⟨#[]⟩ c) ∧ (∃ x1 y1 z1 x2 y2 z2, sv = .slice x1 y1 z1 ∧ cv = .slice x2 y2 z2) ∧ Post sv cv c u w' ∧ Below u.heap.size u w') :
    Calls Try.prog 11 #[v, .int .i64 a, .string t] w fun e w' => ∃ sv cv c u w1, e = .returned (doutV sv cv ⟨#[]⟩ c) ∧ Post sv cv c u w1 ∧ w.heap.size + 2 ≤ u.heap.size ∧ (∀ j, j ≠ w.heap.size + 1 → w'.heap[j]? = w1.heap[j]?) ∧ w'.heap.size = w1.heap.size ∧ Below w.heap.size w w' := by
  obtain ⟨sv, cv, rfl, hs, hc⟩ := h
  have HI := hide (show dskI w w.heap.size (.agg #[sv, cv]) nS S nC A X from ⟨sv, cv, rfl, hs, hc⟩)
  obtain ⟨sa, sk, e1⟩ : ∃ a c, sv = .slice a nS c := by obtain ⟨a, c, e, _⟩ := hs; exact ⟨a, c, e⟩
  obtain ⟨ca, ck, e2⟩ : ∃ a c, cv = .slice a nC c := by obtain ⟨a, c, e, _⟩ := hc; exact ⟨a, c, e⟩
  subst e1 e2
  clear hs hc
  obtain ⟨q0, q1, q2, q3⟩ := box2 w (.cells #[.slice sa nS sk, .slice ca nC ck] 26) (.cells #[.slice none 0 0, .slice none 0 0, .string ⟨#[]⟩, .int .i64 0] 30)
  have HQ := hide (And.intro q0 (And.intro q1 (And.intro q2 q3)))
  clear q0 q1 q2 q3
  have hS : nS ≤ 1048576 := by have := hok.1; omega
  have hC : nC ≤ 1048576 := by have := hok.2.1; omega
  have HOK := hide hok
  have HW := hide hW
  clear hok hW
  go_enter Try.func11, Try.ntmps11
  go_wp2_with fail
  obtain ⟨q0, q1, q2, q3⟩ := HQ.out
  generalize ((w.alloc (.cells #[.slice sa nS sk, .slice ca nC ck] 26)).alloc (.cells #[.slice none 0 0, .slice none 0 0, .string ⟨#[]⟩, .int .i64 0] 30)) = W2 at *
  have I2 : dskI W2 W2.heap.size (.agg #[.slice sa nS sk, .slice ca nC ck]) nS S nC A X := (HI.out.below q0).wide (by omega)
  refine (spec_diskRight _ nS S nC A X W2 hS hC I2).mono ?_
  rintro e w1 ⟨⟨r, rfl, hr⟩, hb1⟩
  obtain rfl : r = true := hr.2 HOK.out
  have hsz1 := hb1.size
  have r2 := (hb1.block w.heap.size (by omega)).trans q2
  have r3 := (hb1.block (w.heap.size + 1) (by omega)).trans q3
  have b0 : w1.cell? ⟨w.heap.size, 0, none⟩ = some (.slice sa nS sk) := by simp [World.cell?, r2]
  have b1 : w1.cell? ⟨w.heap.size, 1, none⟩ = some (.slice ca nC ck) := by simp [World.cell?, r2]
  have SW := hide (HW.out w1 _ ((I2.below hb1).wide hsz1))
  have HR3 := hide r3
  have HB1 := hide (q0.trans (hb1.mono (by omega)))
  clear hr hb1 q0 q2 q3 I2 HQ r2 r3 HW
  go_wp2_with fail
  refine SW.out.mono ?_
  rintro e w2 ⟨sv, cv, c, rfl, ⟨x1, y1, zz1, x2, y2, zz2, rfl, rfl⟩, hp, hb2⟩
  have r3 := (hb2.block (w.heap.size + 1) (by omega)).trans HR3.out
  have c0 : w2.cell? ⟨w.heap.size + 1, 0, none⟩ = some (.slice none 0 0) := by simp [World.cell?, r3]
  have f0 : w2.frozen? ⟨w.heap.size + 1, 0, none⟩ = false := by simp [World.frozen?, r3]
  have c1 : w2.cell? ⟨w.heap.size + 1, 1, none⟩ = some (.slice none 0 0) := by simp [World.cell?, r3]
  have f1 : w2.frozen? ⟨w.heap.size + 1, 1, none⟩ = false := by simp [World.frozen?, r3]
  have c2 : w2.cell? ⟨w.heap.size + 1, 2, none⟩ = some (.string ⟨#[]⟩) := by simp [World.cell?, r3]
  have f2 : w2.frozen? ⟨w.heap.size + 1, 2, none⟩ = false := by simp [World.frozen?, r3]
  have c3 : w2.cell? ⟨w.heap.size + 1, 3, none⟩ = some (.int .i64 0) := by simp [World.cell?, r3]
  have f3 : w2.frozen? ⟨w.heap.size + 1, 3, none⟩ = false := by simp [World.frozen?, r3]
  have HR := hide r3
  have HB := hide (HB1.out.trans (hb2.mono (by omega)))
  have HP := hide hp
  simp only [doutV]
  clear hb2 r3 HR3 HB1 SW hp
  go_wp2_with fail
  have same : ∀ j, j ≠ w.heap.size + 1 → ((((w2.setCell ⟨w.heap.size + 1, 0, none⟩ (.slice x1 y1 zz1)).setCell ⟨w.heap.size + 1, 1, none⟩ (.slice x2 y2 zz2)).setCell ⟨w.heap.size + 1, 2, none⟩ (.string ⟨#[]⟩)).setCell ⟨w.heap.size + 1, 3, none⟩ (.int .i64 c)).heap[j]? = w2.heap[j]? := fun j hj => (set1_o _ _ _ _ _ hj).trans ((set1_o _ _ _ _ _ hj).trans ((set1_o _ _ _ _ _ hj).trans (set1_o _ _ _ _ _ hj)))
  have fin := set4_blk w2 (w.heap.size + 1) _ _ _ _ (.slice x1 y1 zz1) (.slice x2 y2 zz2) (.string ⟨#[]⟩) (.int .i64 c) _ HR.out
  have hbf := below_set4 HB.out (w.heap.size + 1) (by omega) (.slice x1 y1 zz1) (.slice x2 y2 zz2) (.string ⟨#[]⟩) (.int .i64 c)
  exact bodyPost_ret (results_cell_row Try.results11 _ _ (w.heap.size + 1) 30 #[.slice x1 y1 zz1, .slice x2 y2 zz2, .string ⟨#[]⟩, .int .i64 c] (0, 0) _ rfl fin Try.underlying30 rfl (by kernel_rfl)) rfl ⟨_, _, _, w1, w2, rfl, HP.out, by omega, same, by simp [World.setCell], hbf⟩
end Go.Proofs.Ytipeelkmmjgehab
