/- The walk over the model's DiskFlush. -/
import Derived.Test.YtipeelkmmjgehabDskV
namespace Go.Proofs.Ytipeelkmmjgehab
open Go Go.RowKit
set_option maxRecDepth 100000 in
set_option maxHeartbeats 1600000 in
theorem spec_diskFlush_yes (v : Value) (nS : Nat) (S : Nat → ByteArray) (nC : Nat) (A : Nat → Int) (X : Nat → ByteArray) (w : World) (hok : dskOk nS S nC A X) (h : dskI w w.heap.size v nS S nC A X) :
    Calls Try.prog 26 #[v] w fun e w' => ∃ o, e = .returned o ∧ dskV w' o w.heap.size w'.heap.size nS (sC (flS S A X (fun _ => true) nC)) 0 (wF A X) ∧ Below w.heap.size w w' := by
  obtain ⟨sv, cv, rfl, hs, hc⟩ := h
  have HI := hide (show dskI w w.heap.size (.agg #[sv, cv]) nS S nC A X from ⟨sv, cv, rfl, hs, hc⟩)
  obtain ⟨sa, sk, e1⟩ : ∃ a c, sv = .slice a nS c := by obtain ⟨a, c, e, _⟩ := hs; exact ⟨a, c, e⟩
  obtain ⟨ca, ck, e2⟩ : ∃ a c, cv = .slice a nC c := by obtain ⟨a, c, e, _⟩ := hc; exact ⟨a, c, e⟩
  clear hs hc
  subst e1 e2
  have HOK := hide hok
  have hS : nS ≤ 1048576 := by have := hok.1; omega
  have hC : nC ≤ 1048576 := by have := hok.2.1; omega
  clear hok
  go_enter Try.func26, Try.ntmps26
  go_wp2_with fail
  have q0 : Below w.heap.size w ((w.alloc (.cells #[.slice sa nS sk, .slice ca nC ck] 26)).alloc (.cells #[.slice none 0 0, .slice none 0 0] 26)) := ((Below.refl _ w).alloc (Nat.le_refl _) _).alloc (by simp) _
  have qs : ((w.alloc (.cells #[.slice sa nS sk, .slice ca nC ck] 26)).alloc (.cells #[.slice none 0 0, .slice none 0 0] 26)).heap.size = w.heap.size + 2 := by simp
  have q1 : ((w.alloc (.cells #[.slice sa nS sk, .slice ca nC ck] 26)).alloc (.cells #[.slice none 0 0, .slice none 0 0] 26)).heap[w.heap.size]? = some (.cells #[.slice sa nS sk, .slice ca nC ck] 26) := (Below.heap_alloc _ _ _ (by simp)).trans (heap_alloc_new _ _)
  have q2 : ((w.alloc (.cells #[.slice sa nS sk, .slice ca nC ck] 26)).alloc (.cells #[.slice none 0 0, .slice none 0 0] 26)).heap[w.heap.size + 1]? = some (.cells #[.slice none 0 0, .slice none 0 0] 26) := by have := heap_alloc_new (w.alloc (.cells #[.slice sa nS sk, .slice ca nC ck] 26)) (.cells #[.slice none 0 0, .slice none 0 0] 26); rwa [World.size_alloc] at this
  generalize ((w.alloc (.cells #[.slice sa nS sk, .slice ca nC ck] 26)).alloc (.cells #[.slice none 0 0, .slice none 0 0] 26)) = W2 at *
  have I2 : dskI W2 W2.heap.size (.agg #[.slice sa nS sk, .slice ca nC ck]) nS S nC A X := (HI.out.below q0).wide (by omega)
  refine (spec_diskRight _ nS S nC A X W2 hS hC I2).mono ?_
  rintro e w1 ⟨⟨r, rfl, hr⟩, hb1⟩
  obtain rfl : r = true := hr.2 HOK.out
  have r1 := (hb1.block w.heap.size (by omega)).trans q1
  have r2 := (hb1.block (w.heap.size + 1) (by omega)).trans q2
  have c0 : w1.cell? ⟨w.heap.size, 0, none⟩ = some (.slice sa nS sk) := by simp [World.cell?, r1]
  have c1 : w1.cell? ⟨w.heap.size, 1, none⟩ = some (.slice ca nC ck) := by simp [World.cell?, r1]
  have hs1 := hb1.size
  have I3 := hide (show dskI w1 w1.heap.size (.agg #[.slice sa nS sk, .slice ca nC ck]) nS S nC A X from (I2.below hb1).wide hs1)
  have B1 := hide (q0.trans (hb1.mono (by omega)))
  have HR := hide r2
  clear hr hb1 r1 r2 q0 q1 q2 I2
  go_wp2_with fail
  refine (spec_flush _ (.slice none 0 0) nS S nC A X 0 (fun _ => false) true w1 HOK.out (by omega) I3.out (booI_nil _ _ _) (fun _ => true) (fun _ => rfl)).mono ?_
  rintro e w2 ⟨o, rfl, hd, hb2⟩
  obtain ⟨a, b, c, d, eo⟩ := hd.shape
  subst eo
  have r2 := (hb2.block (w.heap.size + 1) (by omega)).trans HR.out
  have c10 : w2.cell? ⟨w.heap.size + 1, 0, none⟩ = some (.slice none 0 0) := by simp [World.cell?, r2]
  have c11 : w2.cell? ⟨w.heap.size + 1, 1, none⟩ = some (.slice none 0 0) := by simp [World.cell?, r2]
  have f10 : w2.frozen? ⟨w.heap.size + 1, 0, none⟩ = false := by simp [World.frozen?, r2]
  have f11 : w2.frozen? ⟨w.heap.size + 1, 1, none⟩ = false := by simp [World.frozen?, r2]
  have HD := hide hd
  have B2 := hide (B1.out.trans (hb2.mono (by omega)))
  have HR2 := hide r2
  clear hd hb2 r2 c0 c1 HR
  go_wp2_with fail
  have u1 : ((w2.setCell ⟨w.heap.size + 1, 0, none⟩ (.slice a nS b)).setCell ⟨w.heap.size + 1, 1, none⟩ (.slice c 0 d)).heap[w.heap.size + 1]? = some (.cells #[.slice a nS b, .slice c 0 d] 26) := by simp [World.setCell, Array.getElem?_modify, HR2.out]
  have u2 : ((w2.setCell ⟨w.heap.size + 1, 0, none⟩ (.slice a nS b)).setCell ⟨w.heap.size + 1, 1, none⟩ (.slice c 0 d)).heap.size = w2.heap.size := by simp [World.setCell]
  have u4 := HD.out.set2 (w.heap.size + 1) (by omega) (.slice a nS b) (.slice c 0 d)
  have u6 : Below w.heap.size w ((w2.setCell ⟨w.heap.size + 1, 0, none⟩ (.slice a nS b)).setCell ⟨w.heap.size + 1, 1, none⟩ (.slice c 0 d)) := below_set (below_set B2.out _ 0 (by omega) _) _ 1 (by omega) _
  generalize ((w2.setCell ⟨w.heap.size + 1, 0, none⟩ (.slice a nS b)).setCell ⟨w.heap.size + 1, 1, none⟩ (.slice c 0 d)) = w9 at *
  exact bodyPost_ret (results_cell_row Try.results26 _ _ (w.heap.size + 1) 26 #[.slice a nS b, .slice c 0 d] (0, 0) _ rfl u1 Try.underlying26 rfl (by kernel_rfl)) rfl ⟨_, rfl, u4.span (by omega) (by omega), u6⟩
set_option maxRecDepth 100000 in
set_option maxHeartbeats 1600000 in
theorem spec_diskFlush_no (v : Value) (nS : Nat) (S : Nat → ByteArray) (nC : Nat) (A : Nat → Int) (X : Nat → ByteArray) (w : World) (hS : nS ≤ 1048576) (hC : nC ≤ 1048576) (hno : ¬ dskOk nS S nC A X) (h : dskI w w.heap.size v nS S nC A X) :
    Calls Try.prog 26 #[v] w fun e w' => ∃ o, e = .returned o ∧ dskV w' o w.heap.size w'.heap.size nS (sC S) nC (wF A X) ∧ Below w.heap.size w w' := by
  obtain ⟨sv, cv, rfl, hs, hc⟩ := h
  have HI := hide (show dskI w w.heap.size (.agg #[sv, cv]) nS S nC A X from ⟨sv, cv, rfl, hs, hc⟩)
  obtain ⟨sa, sk, e1⟩ : ∃ a c, sv = .slice a nS c := by obtain ⟨a, c, e, _⟩ := hs; exact ⟨a, c, e⟩
  obtain ⟨ca, ck, e2⟩ : ∃ a c, cv = .slice a nC c := by obtain ⟨a, c, e, _⟩ := hc; exact ⟨a, c, e⟩
  clear hs hc
  subst e1 e2
  have HNO := hide hno
  clear hno
  go_enter Try.func26, Try.ntmps26
  go_wp2_with fail
  have q0 : Below w.heap.size w ((w.alloc (.cells #[.slice sa nS sk, .slice ca nC ck] 26)).alloc (.cells #[.slice none 0 0, .slice none 0 0] 26)) := ((Below.refl _ w).alloc (Nat.le_refl _) _).alloc (by simp) _
  have qs : ((w.alloc (.cells #[.slice sa nS sk, .slice ca nC ck] 26)).alloc (.cells #[.slice none 0 0, .slice none 0 0] 26)).heap.size = w.heap.size + 2 := by simp
  have q1 : ((w.alloc (.cells #[.slice sa nS sk, .slice ca nC ck] 26)).alloc (.cells #[.slice none 0 0, .slice none 0 0] 26)).heap[w.heap.size]? = some (.cells #[.slice sa nS sk, .slice ca nC ck] 26) := (Below.heap_alloc _ _ _ (by simp)).trans (heap_alloc_new _ _)
  have q2 : ((w.alloc (.cells #[.slice sa nS sk, .slice ca nC ck] 26)).alloc (.cells #[.slice none 0 0, .slice none 0 0] 26)).heap[w.heap.size + 1]? = some (.cells #[.slice none 0 0, .slice none 0 0] 26) := by have := heap_alloc_new (w.alloc (.cells #[.slice sa nS sk, .slice ca nC ck] 26)) (.cells #[.slice none 0 0, .slice none 0 0] 26); rwa [World.size_alloc] at this
  generalize ((w.alloc (.cells #[.slice sa nS sk, .slice ca nC ck] 26)).alloc (.cells #[.slice none 0 0, .slice none 0 0] 26)) = W2 at *
  have I2 : dskI W2 W2.heap.size (.agg #[.slice sa nS sk, .slice ca nC ck]) nS S nC A X := (HI.out.below q0).wide (by omega)
  refine (spec_diskRight _ nS S nC A X W2 hS hC I2).mono ?_
  rintro e w1 ⟨⟨r, rfl, hr⟩, hb1⟩
  obtain rfl : r = false := by
    cases r with
    | false => rfl
    | true => exact absurd (hr.1 rfl) HNO.out
  have r1 := (hb1.block w.heap.size (by omega)).trans q1
  have r2 := (hb1.block (w.heap.size + 1) (by omega)).trans q2
  have c0 : w1.cell? ⟨w.heap.size, 0, none⟩ = some (.slice sa nS sk) := by simp [World.cell?, r1]
  have c1 : w1.cell? ⟨w.heap.size, 1, none⟩ = some (.slice ca nC ck) := by simp [World.cell?, r1]
  have hs1 := hb1.size
  have I3 := hide (show dskI w1 w1.heap.size (.agg #[.slice sa nS sk, .slice ca nC ck]) nS S nC A X from (I2.below hb1).wide hs1)
  have B1 := hide (q0.trans (hb1.mono (by omega)))
  have HR := hide r2
  clear hr hb1 r1 r2 q0 q1 q2 I2
  go_wp2_with fail
  refine (spec_copy _ nS S nC A X w1 hS hC I3.out).mono ?_
  rintro e w2 ⟨o, rfl, hd, hb2⟩
  obtain ⟨a, b, c, d, eo⟩ := hd.shape
  subst eo
  have r2 := (hb2.block (w.heap.size + 1) (by omega)).trans HR.out
  have c10 : w2.cell? ⟨w.heap.size + 1, 0, none⟩ = some (.slice none 0 0) := by simp [World.cell?, r2]
  have c11 : w2.cell? ⟨w.heap.size + 1, 1, none⟩ = some (.slice none 0 0) := by simp [World.cell?, r2]
  have f10 : w2.frozen? ⟨w.heap.size + 1, 0, none⟩ = false := by simp [World.frozen?, r2]
  have f11 : w2.frozen? ⟨w.heap.size + 1, 1, none⟩ = false := by simp [World.frozen?, r2]
  have HD := hide hd
  have B2 := hide (B1.out.trans (hb2.mono (by omega)))
  have HR2 := hide r2
  clear hd hb2 r2 c0 c1 HR
  go_wp2_with fail
  have u1 : ((w2.setCell ⟨w.heap.size + 1, 0, none⟩ (.slice a nS b)).setCell ⟨w.heap.size + 1, 1, none⟩ (.slice c nC d)).heap[w.heap.size + 1]? = some (.cells #[.slice a nS b, .slice c nC d] 26) := by simp [World.setCell, Array.getElem?_modify, HR2.out]
  have u2 : ((w2.setCell ⟨w.heap.size + 1, 0, none⟩ (.slice a nS b)).setCell ⟨w.heap.size + 1, 1, none⟩ (.slice c nC d)).heap.size = w2.heap.size := by simp [World.setCell]
  have u4 := HD.out.set2 (w.heap.size + 1) (by omega) (.slice a nS b) (.slice c nC d)
  have u6 : Below w.heap.size w ((w2.setCell ⟨w.heap.size + 1, 0, none⟩ (.slice a nS b)).setCell ⟨w.heap.size + 1, 1, none⟩ (.slice c nC d)) := below_set (below_set B2.out _ 0 (by omega) _) _ 1 (by omega) _
  generalize ((w2.setCell ⟨w.heap.size + 1, 0, none⟩ (.slice a nS b)).setCell ⟨w.heap.size + 1, 1, none⟩ (.slice c nC d)) = w9 at *
  exact bodyPost_ret (results_cell_row Try.results26 _ _ (w.heap.size + 1) 26 #[.slice a nS b, .slice c nC d] (0, 0) _ rfl u1 Try.underlying26 rfl (by kernel_rfl)) rfl ⟨_, rfl, u4.span (by omega) (by omega), u6⟩
end Go.Proofs.Ytipeelkmmjgehab
