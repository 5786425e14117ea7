/- The walks over the program's writeCode, DiskWrite (written by mkdkw.py). -/
import Derived.Test.YtipeelkmmjgehabDkC
import Derived.Test.YtipeelkmmjgehabDkR
import Derived.Test.YtipeelkmmjgehabDskB
import Derived.Test.YtipeelkmmjgehabSecA
import Derived.Test.YtipeelkmmjgehabDskW
namespace Go.Proofs.Ytipeelkmmjgehab
open Go Go.RowKit
/-- The first fault of a write. -/
def wrCode (nS : Nat) (S : Nat → ByteArray) (nC : Nat) (A : Nat → Int) (X : Nat → ByteArray) (a m c : Int) : Prop :=
  (c = 1 ∧ ¬ dskOk nS S nC A X) ∨ (c = 8 ∧ dskOk nS S nC A X ∧ ¬ (0 ≤ a ∧ a ≤ (nS : Int) - m)) ∨ (c = 9 ∧ dskOk nS S nC A X ∧ (0 ≤ a ∧ a ≤ (nS : Int) - m) ∧ 400 < (nC : Int) + m) ∨ (c = 0 ∧ dskOk nS S nC A X ∧ (0 ≤ a ∧ a ≤ (nS : Int) - m) ∧ (nC : Int) + m ≤ 400)
set_option maxRecDepth 100000 in
theorem imp_piecesOf (n : Nat) (w : World) (hn : n ≤ 1048576) :
    Calls Try.prog 38 #[.int .i64 (n : Int)] w fun e w' => e = .returned (.int .i64 (((n + 63) / 64 : Nat) : Int)) ∧ Below w.heap.size w w' := by
  obtain ⟨q, hq⟩ : ∃ q, q = (n + 63) / 64 := ⟨_, rfl⟩
  rw [← hq]
  have h0 : (n : Int) + 64 - 1 = ((n + 63 : Nat) : Int) := by omega
  have h1 : Int.tdiv ((n : Int) + 64 - 1) 64 = (q : Int) := by rw [h0, hq]; rfl
  go_enter Try.func38, Try.ntmps38
  go_wp2_with fail
  go_ret
  exact ⟨by first | rfl | (simp; omega), Below.refl _ _⟩
theorem secS_piece (t : ByteArray) (k p : Nat) (hp : p = 64 * k) (hpt : p ≤ t.size) : secS (t.extract p t.size) = pieceS t k := by
  subst hp
  unfold secS pieceS secD
  congr 2
  apply List.map_congr_left
  intro j hj
  unfold pieceF
  by_cases h : 64 * k + j < t.size
  · rw [if_pos h]
    have h1 := ext_at t (64 * k) t.size rfl j h
    rw [bF, List.getD_eq_getElem?_getD, h1]; rfl
  · rw [if_neg h, bF_out _ _ (by rw [ByteArray.size_extract]; omega)]
set_option maxRecDepth 100000 in
set_option maxHeartbeats 1600000 in
theorem imp_writeCode (v : Value) (nS : Nat) (S : Nat → ByteArray) (nC : Nat) (A : Nat → Int) (X : Nat → ByteArray) (a m : Int) (w : World) (hS : nS ≤ 1048576) (hC : nC ≤ 1048576) (hm0 : 0 ≤ m) (hm : m ≤ 1048576) (h : dskI w w.heap.size v nS S nC A X) :
    Calls Try.prog 39 #[v, .int .i64 a, .int .i64 m] w fun e w' => ∃ c : Int, e = .returned (.int .i64 c) ∧ wrCode nS S nC A X a m c ∧ Below w.heap.size w w' := by
  obtain ⟨sv, cv, rfl, hs, hc⟩ := h
  have HI := hide (show dskI w w.heap.size (.agg #[sv, cv]) nS S nC A X from ⟨sv, cv, rfl, hs, hc⟩)
  obtain ⟨sa, sk, e1⟩ : ∃ a c, sv = .slice a nS c := by obtain ⟨a, c, e, _⟩ := hs; exact ⟨a, c, e⟩
  obtain ⟨ca, ck, e2⟩ : ∃ a c, cv = .slice a nC c := by obtain ⟨a, c, e, _⟩ := hc; exact ⟨a, c, e⟩
  subst e1 e2
  clear hs hc
  have q0 : Below w.heap.size w (w.alloc (.cells #[.slice sa nS sk, .slice ca nC ck] 26)) := (Below.refl _ w).alloc (Nat.le_refl _) _
  have q1 : (w.alloc (.cells #[.slice sa nS sk, .slice ca nC ck] 26)).heap[w.heap.size]? = some (.cells #[.slice sa nS sk, .slice ca nC ck] 26) := heap_alloc_new _ _
  have qs : (w.alloc (.cells #[.slice sa nS sk, .slice ca nC ck] 26)).heap.size = w.heap.size + 1 := by simp
  have HQ := hide (And.intro q0 q1)
  clear q0 q1
  obtain ⟨nm, hnm⟩ : ∃ nm : Int, nm = (nC : Int) + m := ⟨_, rfl⟩
  have hnmw : IntKind.i64.wrap ((nC : Int) + m) = nm := by simp only [IntKind.wrap_i64]; omega
  have hnm2 : (nC : Int) + m = nm := hnm.symm
  have HNM := hide hnm
  clear hnm
  go_enter Try.func39, Try.ntmps39
  go_wp2_with fail
  obtain ⟨q0, q1⟩ := HQ.out
  generalize w.alloc (.cells #[.slice sa nS sk, .slice ca nC ck] 26) = W2 at *
  have I2 : dskI W2 W2.heap.size (.agg #[.slice sa nS sk, .slice ca nC ck]) nS S nC A X := (HI.out.below q0).wide (by omega)
  refine (imp_diskRight _ nS S nC A X W2 hS hC I2).mono ?_
  rintro e w1 ⟨⟨r, rfl, hr⟩, hb1⟩
  have r2 := (hb1.block w.heap.size (by omega)).trans q1
  have b0 : w1.cell? ⟨w.heap.size, 0, none⟩ = some (.slice sa nS sk) := by simp [World.cell?, r2]
  have b1 : w1.cell? ⟨w.heap.size, 1, none⟩ = some (.slice ca nC ck) := by simp [World.cell?, r2]
  have HB := hide (q0.trans (hb1.mono (by omega)))
  have R2 := hide r2
  clear hb1 q0 q1 I2 HQ r2
  cases r with
  | false =>
    have R := hide (show ¬ dskOk nS S nC A X from fun h => by have := hr.2 h; cases this)
    clear hr hnmw hnm2
    go_wp2_with fail
    go_ret
    exact ⟨1, rfl, .inl ⟨rfl, R.out⟩, HB.out⟩
  | true =>
    have R := hide (hr.1 rfl)
    clear hr
    go_wp2_with fail
    refine (imp_isThere sa ca nS sk nC ck a m w1 hS hm0 (by omega)).mono ?_
    rintro e w2 ⟨⟨r, rfl, hr⟩, hb2⟩
    have hw1 : w.heap.size < w1.heap.size := World.block_lt_of_cell? w1 _ b0
    have d1 : w2.cell? ⟨w.heap.size, 1, none⟩ = some (.slice ca nC ck) := (hb2.cell (p := ⟨w.heap.size, 1, none⟩) (by show w.heap.size < _; exact hw1)).trans b1
    have HB2 := hide (HB.out.trans (hb2.mono (by omega)))
    clear hb2 b0 b1 HB R2
    cases r with
    | false =>
      have R3 := hide (show ¬ (0 ≤ a ∧ a ≤ (nS : Int) - m) from fun h => by have := hr.2 h; cases this)
      clear hr hnmw hnm2
      go_wp2_with fail
      go_ret
      exact ⟨8, rfl, .inr (.inl ⟨rfl, R.out, R3.out⟩), HB2.out⟩
    | true =>
      have R3 := hide (hr.1 rfl)
      clear hr
      by_cases g : 400 < nm
      · have dg : decide (400 < nm) = true := decide_eq_true g
        have G := hide g
        clear g
        go_wp2_with fail
        go_ret
        exact ⟨9, rfl, .inr (.inr (.inl ⟨rfl, R.out, R3.out, by rw [← HNM.out]; exact G.out⟩)), HB2.out⟩
      · have dg : decide (400 < nm) = false := decide_eq_false g
        have G := hide g
        clear g
        go_wp2_with fail
        go_ret
        exact ⟨0, rfl, .inr (.inr (.inr ⟨rfl, R.out, R3.out, by rw [← HNM.out]; have := G.out; omega⟩)), HB2.out⟩
set_option maxRecDepth 100000 in
set_option maxHeartbeats 1600000 in
theorem imp_diskWrite_long (v : Value) (nS : Nat) (S : Nat → ByteArray) (nC : Nat) (A : Nat → Int) (X : Nat → ByteArray) (a : Int) (t : ByteArray) (w : World) (hts : 20000 < t.size) (htm : t.size ≤ 9223372036854775807) (h : dskI w w.heap.size v nS S nC A X) :
    Calls Try.prog 10 #[v, .int .i64 a, .string t] w fun e w' => e = .returned (doutV (.slice none 0 0) (.slice none 0 0) ⟨#[]⟩ 2) ∧ Below w.heap.size w w' := by
  obtain ⟨sv, cv, rfl, hs, hc⟩ := h
  have HI := hide (show dskI w w.heap.size (.agg #[sv, cv]) nS S nC A X from ⟨sv, cv, rfl, hs, hc⟩)
  obtain ⟨sa, sk, e1⟩ : ∃ a c, sv = .slice a nS c := by obtain ⟨a, c, e, _⟩ := hs; exact ⟨a, c, e⟩
  obtain ⟨ca, ck, e2⟩ : ∃ a c, cv = .slice a nC c := by obtain ⟨a, c, e, _⟩ := hc; exact ⟨a, c, e⟩
  subst e1 e2
  clear hs hc
  have d1 : decide ((20000 : Int) < (t.size : Int)) = true := decide_eq_true (by omega)
  have fin := hide (show ((w.alloc (.cells #[.slice sa nS sk, .slice ca nC ck] 26)).alloc (.cells #[.slice none 0 0, .slice none 0 0, .string ⟨#[]⟩, .int .i64 2] 30)).heap[w.heap.size + 1]? = some (.cells #[.slice none 0 0, .slice none 0 0, .string ⟨#[]⟩, .int .i64 2] 30) by have := heap_alloc_new (w.alloc (.cells #[.slice sa nS sk, .slice ca nC ck] 26)) (.cells #[.slice none 0 0, .slice none 0 0, .string ⟨#[]⟩, .int .i64 2] 30); rwa [World.size_alloc] at this)
  have hbf := hide (below_2 w (.cells #[.slice sa nS sk, .slice ca nC ck] 26) (.cells #[.slice none 0 0, .slice none 0 0, .string ⟨#[]⟩, .int .i64 2] 30))
  go_enter Try.func10, Try.ntmps10
  go_wp2_with fail
  exact bodyPost_ret (results_cell_row Try.results10 _ _ (w.heap.size + 1) 30 #[.slice none 0 0, .slice none 0 0, .string ⟨#[]⟩, .int .i64 2] (0, 0) _ rfl fin.out Try.underlying30 rfl (by kernel_rfl)) rfl ⟨rfl, hbf.out⟩
set_option maxRecDepth 100000 in
set_option maxHeartbeats 1600000 in
theorem imp_diskWrite_bad (v : Value) (nS : Nat) (S : Nat → ByteArray) (nC : Nat) (A : Nat → Int) (X : Nat → ByteArray) (a : Int) (t : ByteArray) (w : World) (hts : t.size ≤ 20000) (hS : nS ≤ 1048576) (hC : nC ≤ 1048576) (hbad : ¬ (dskOk nS S nC A X ∧ (0 ≤ a ∧ a ≤ (nS : Int) - (manyW t : Int)) ∧ (nC : Int) + (manyW t : Int) ≤ 400)) (h : dskI w w.heap.size v nS S nC A X) :
    Calls Try.prog 10 #[v, .int .i64 a, .string t] w fun e w' => ∃ c : Int, e = .returned (doutV (.slice none 0 0) (.slice none 0 0) ⟨#[]⟩ c) ∧ wrCode nS S nC A X a (manyW t : Int) c ∧ Below w.heap.size w w' := by
  obtain ⟨sv, cv, rfl, hs, hc⟩ := h
  have HI := hide (show dskI w w.heap.size (.agg #[sv, cv]) nS S nC A X from ⟨sv, cv, rfl, hs, hc⟩)
  obtain ⟨sa, sk, e1⟩ : ∃ a c, sv = .slice a nS c := by obtain ⟨a, c, e, _⟩ := hs; exact ⟨a, c, e⟩
  obtain ⟨ca, ck, e2⟩ : ∃ a c, cv = .slice a nC c := by obtain ⟨a, c, e, _⟩ := hc; exact ⟨a, c, e⟩
  subst e1 e2
  clear hs hc
  obtain ⟨q0, q1, q2, q3⟩ := box2 w (.cells #[.slice sa nS sk, .slice ca nC ck] 26) (.cells #[.slice none 0 0, .slice none 0 0, .string ⟨#[]⟩, .int .i64 0] 30)
  have HQ := hide (And.intro q0 (And.intro q1 (And.intro q2 q3)))
  clear q0 q1 q2 q3
  obtain ⟨m, hm⟩ : ∃ m, m = manyW t := ⟨_, rfl⟩
  have hm2 : (t.size + 63) / 64 = m := hm.symm
  have hm3 : m ≤ 313 := by omega
  rw [← hm] at hbad ⊢
  have d1 : decide ((20000 : Int) < (t.size : Int)) = false := decide_eq_false (by omega)
  have hts1 : t.size ≤ 1048576 := by omega
  have PS := hide (fun w => imp_piecesOf t.size w hts1)
  rw [hm2] at PS
  have HM := hide hm
  clear hm hm2
  go_enter Try.func10, Try.ntmps10
  go_wp2_with fail
  obtain ⟨q0, q1, q2, q3⟩ := HQ.out
  generalize ((w.alloc (.cells #[.slice sa nS sk, .slice ca nC ck] 26)).alloc (.cells #[.slice none 0 0, .slice none 0 0, .string ⟨#[]⟩, .int .i64 0] 30)) = W2 at *
  refine (PS.out W2).mono ?_
  rintro e w0 ⟨rfl, hb0⟩
  have hsz0 := hb0.size
  have p2 := (hb0.block w.heap.size (by omega)).trans q2
  have p3 := (hb0.block (w.heap.size + 1) (by omega)).trans q3
  have b0 : w0.cell? ⟨w.heap.size, 0, none⟩ = some (.slice sa nS sk) := by simp [World.cell?, p2]
  have b1 : w0.cell? ⟨w.heap.size, 1, none⟩ = some (.slice ca nC ck) := by simp [World.cell?, p2]
  have B0 := q0.trans (hb0.mono (by omega))
  have I2 : dskI w0 w0.heap.size (.agg #[.slice sa nS sk, .slice ca nC ck]) nS S nC A X := (HI.out.below B0).wide B0.size
  have WC := hide (imp_writeCode _ nS S nC A X a (m : Int) w0 hS hC (by omega) (by omega) I2)
  have P := hide (And.intro p2 (And.intro p3 B0))
  clear q0 q1 q2 q3 HQ hb0 I2 PS B0 p2 p3
  go_wp2_with fail
  refine WC.out.mono ?_
  rintro e w1 ⟨c, rfl, hwc, hb1⟩
  have hsz1 := hb1.size
  have hw0 : w.heap.size + 1 < w0.heap.size := (Array.getElem?_eq_some_iff.1 P.out.2.1).1
  have r2 := (hb1.block w.heap.size (by omega)).trans P.out.1
  have r3 := (hb1.block (w.heap.size + 1) (by omega)).trans P.out.2.1
  have HB := hide (P.out.2.2.trans (hb1.mono (by omega)))
  clear hb1 WC b0 b1 P
  have hc0 : c ≠ 0 := fun e => by
    subst e
    rcases hwc with ⟨h, _⟩ | ⟨h, _⟩ | ⟨h, _⟩ | ⟨_, h1, h2, h3⟩
    · cases h
    · cases h
    · cases h
    · exact hbad ⟨h1, h2, h3⟩
  have hc0' : (c != 0) = true := by simp [hc0]
  have HW := hide hwc
  clear hwc hbad hc0
  have c0 : w1.cell? ⟨w.heap.size + 1, 0, none⟩ = some (.slice none 0 0) := by simp [World.cell?, r3]
  have f0 : w1.frozen? ⟨w.heap.size + 1, 0, none⟩ = false := by simp [World.frozen?, r3]
  have c1 : w1.cell? ⟨w.heap.size + 1, 1, none⟩ = some (.slice none 0 0) := by simp [World.cell?, r3]
  have f1 : w1.frozen? ⟨w.heap.size + 1, 1, none⟩ = false := by simp [World.frozen?, r3]
  have c2 : w1.cell? ⟨w.heap.size + 1, 2, none⟩ = some (.string ⟨#[]⟩) := by simp [World.cell?, r3]
  have f2 : w1.frozen? ⟨w.heap.size + 1, 2, none⟩ = false := by simp [World.frozen?, r3]
  have c3 : w1.cell? ⟨w.heap.size + 1, 3, none⟩ = some (.int .i64 0) := by simp [World.cell?, r3]
  have f3 : w1.frozen? ⟨w.heap.size + 1, 3, none⟩ = false := by simp [World.frozen?, r3]
  have HR := hide r3
  clear r2 r3
  go_wp2_with fail
  have fin := set4_blk w1 (w.heap.size + 1) _ _ _ _ (.slice none 0 0) (.slice none 0 0) (.string ⟨#[]⟩) (.int .i64 c) _ HR.out
  have hbf := below_set4 HB.out (w.heap.size + 1) (by omega) (.slice none 0 0) (.slice none 0 0) (.string ⟨#[]⟩) (.int .i64 c)
  exact bodyPost_ret (results_cell_row Try.results10 _ _ (w.heap.size + 1) 30 #[.slice none 0 0, .slice none 0 0, .string ⟨#[]⟩, .int .i64 c] (0, 0) _ rfl fin Try.underlying30 rfl (by kernel_rfl)) rfl ⟨c, rfl, HW.out, hbf⟩
set_option maxRecDepth 100000 in
set_option maxHeartbeats 3200000 in
theorem imp_diskWrite_good (v : Value) (nS : Nat) (S : Nat → ByteArray) (nC : Nat) (A : Nat → Int) (X : Nat → ByteArray) (a : Int) (t : ByteArray) (w : World) (hok : dskOk nS S nC A X) (hts : t.size ≤ 20000) (ha : 0 ≤ a) (ha2 : a ≤ (nS : Int) - (manyW t : Int)) (hf : nC + manyW t ≤ 400) (h : dskI w w.heap.size v nS S nC A X) :
    Calls Try.prog 10 #[v, .int .i64 a, .string t] w fun e w' => ∃ sv cv, e = .returned (doutV sv cv ⟨#[]⟩ 0) ∧ w'.ownsRow w.heap.size 9 1 sv nS (sL S nS) ∧ w'.ownsRow w.heap.size 70 2 cv (nC + manyW t) (wL (wrA A nC a) (wrX X nC t) (nC + manyW t)) ∧ apartV sv cv ∧ Below w.heap.size w w' := by
  obtain ⟨iw, hiw, hzw0, hzw1, hzw2⟩ := info_parts Try.infoWr
  have hS : nS ≤ 1048576 := by have := hok.1; omega
  have hC : nC ≤ 1048576 := by have := hok.2.1; omega
  have hn6 := hok.1
  have HOK := hide hok
  clear hok
  obtain ⟨sv, cv, rfl, hs, hc⟩ := h
  have HI := hide (show dskI w w.heap.size (.agg #[sv, cv]) nS S nC A X from ⟨sv, cv, rfl, hs, hc⟩)
  obtain ⟨sa, sk, e1⟩ : ∃ a c, sv = .slice a nS c := by obtain ⟨a, c, e, _⟩ := hs; exact ⟨a, c, e⟩
  obtain ⟨ca, ck, e2⟩ : ∃ a c, cv = .slice a nC c := by obtain ⟨a, c, e, _⟩ := hc; exact ⟨a, c, e⟩
  subst e1 e2
  clear hs hc
  obtain ⟨q0, q1, q2, q3⟩ := box2 w (.cells #[.slice sa nS sk, .slice ca nC ck] 26) (.cells #[.slice none 0 0, .slice none 0 0, .string ⟨#[]⟩, .int .i64 0] 30)
  have HQ := hide (And.intro q0 (And.intro q1 (And.intro q2 q3)))
  clear q0 q1 q2 q3
  obtain ⟨m, hm⟩ : ∃ m, m = manyW t := ⟨_, rfl⟩
  have hm2 : (t.size + 63) / 64 = m := hm.symm
  have hm3 : m ≤ 313 := by omega
  rw [← hm] at ha2 hf ⊢
  have d1 : decide ((20000 : Int) < (t.size : Int)) = false := decide_eq_false (by omega)
  have hts1 : t.size ≤ 1048576 := by omega
  have PS := hide (fun w => imp_piecesOf t.size w hts1)
  rw [hm2] at PS
  have HM := hide hm
  clear hm hm2
  go_enter Try.func10, Try.ntmps10
  go_wp2_with fail
  obtain ⟨q0, q1, q2, q3⟩ := HQ.out
  generalize ((w.alloc (.cells #[.slice sa nS sk, .slice ca nC ck] 26)).alloc (.cells #[.slice none 0 0, .slice none 0 0, .string ⟨#[]⟩, .int .i64 0] 30)) = W2 at *
  refine (PS.out W2).mono ?_
  rintro e w0 ⟨rfl, hb0⟩
  have hsz0 := hb0.size
  have p2 := (hb0.block w.heap.size (by omega)).trans q2
  have p3 := (hb0.block (w.heap.size + 1) (by omega)).trans q3
  have b0 : w0.cell? ⟨w.heap.size, 0, none⟩ = some (.slice sa nS sk) := by simp [World.cell?, p2]
  have b1 : w0.cell? ⟨w.heap.size, 1, none⟩ = some (.slice ca nC ck) := by simp [World.cell?, p2]
  have B0 := q0.trans (hb0.mono (by omega))
  have I2 : dskI w0 w0.heap.size (.agg #[.slice sa nS sk, .slice ca nC ck]) nS S nC A X := (HI.out.below B0).wide B0.size
  have WC := hide (imp_writeCode _ nS S nC A X a (m : Int) w0 hS hC (by omega) (by omega) I2)
  have P := hide (And.intro p2 (And.intro p3 B0))
  clear q0 q1 q2 q3 HQ hb0 I2 PS B0 p2 p3
  go_wp2_with fail
  refine WC.out.mono ?_
  rintro e w1 ⟨c, rfl, hwc, hb1⟩
  have hsz1 := hb1.size
  have hw0 : w.heap.size + 1 < w0.heap.size := (Array.getElem?_eq_some_iff.1 P.out.2.1).1
  have r2 := (hb1.block w.heap.size (by omega)).trans P.out.1
  have r3 := (hb1.block (w.heap.size + 1) (by omega)).trans P.out.2.1
  have HB := hide (P.out.2.2.trans (hb1.mono (by omega)))
  clear hb1 WC b0 b1 P
  have hc0 : c = 0 := by
    rcases hwc with ⟨_, h⟩ | ⟨_, _, h⟩ | ⟨_, _, _, h⟩ | ⟨h, _⟩
    · exact absurd HOK.out h
    · exact absurd ⟨ha, ha2⟩ h
    · omega
    · exact h
  subst hc0
  have b0 : w1.cell? ⟨w.heap.size, 0, none⟩ = some (.slice sa nS sk) := by simp [World.cell?, r2]
  have b1 : w1.cell? ⟨w.heap.size, 1, none⟩ = some (.slice ca nC ck) := by simp [World.cell?, r2]
  have I1 : dskI w1 w1.heap.size (.agg #[.slice sa nS sk, .slice ca nC ck]) nS S nC A X := (HI.out.below HB.out).wide HB.out.size
  have CP := hide (imp_copiedO _ nS S nC A X w1 hS hC (fun j hj => by have := HOK.out.2.2.1 j hj; omega) (fun j hj => by have := (HOK.out.2.2.2 j hj).2.2; omega) I1)
  have R3 := hide r3
  clear hwc I1 r2 r3
  go_wp2_with fail
  refine CP.out.mono ?_
  rintro e w2 ⟨s1, s2, rfl, o1, o2, hap, hb2⟩
  obtain ⟨s1, c1, ea⟩ := own_slice o1
  obtain ⟨a2, c2, eb⟩ := own_slice o2
  subst ea eb
  have hs2 := hb2.size
  have hw1 : w.heap.size + 1 < w1.heap.size := by omega
  have Q3 := hide ((hb2.block (w.heap.size + 1) (by omega)).trans R3.out)
  have QB := hide (HB.out.trans (hb2.mono (by omega)))
  have O1 := hide (own_base o1 (show w.heap.size + 2 ≤ w1.heap.size by omega))
  have O2 := hide (own_base o2 (show w.heap.size + 2 ≤ w1.heap.size by omega))
  have HAP := hide hap
  have HLT := hide (And.intro (fun b h => (o1.lt b h).2) (fun b h => (o2.lt b h).2))
  have y0 : Below w2.heap.size w2 (w2.alloc (.cells #[.slice s1 nS c1, .slice a2 nC c2] 26)) := (Below.refl _ _).alloc (Nat.le_refl _) _
  have y1 := heap_alloc_new w2 (.cells #[.slice s1 nS c1, .slice a2 nC c2] 26)
  have y2 : w2.heap.size < (w2.alloc (.cells #[.slice s1 nS c1, .slice a2 nC c2] 26)).heap.size := by simp
  have Y := hide (And.intro y0 y1)
  clear hb2 o1 o2 hap HB R3 b0 b1 CP y0 y1
  go_wp2_with fail
  generalize (w2.alloc (.cells #[.slice s1 nS c1, .slice a2 nC c2] 26)) = W3 at *
  have L1 := hide (own_of_block O1.out (fun b hb => Y.out.1.block b (HLT.out.1 b hb)))
  have L2 := hide (own_of_block O2.out (fun b hb => Y.out.1.block b (HLT.out.2 b hb)))
  have L3 := hide (show W3.heap[w.heap.size + 1]? = some (.cells #[.slice none 0 0, .slice none 0 0, .string ⟨#[]⟩, .int .i64 0] 30) ∧ W3.heap[w2.heap.size]? = some (.cells #[.slice s1 nS c1, .slice a2 nC c2] 26) ∧ Below w.heap.size w W3 from ⟨(Y.out.1.block _ (by omega)).trans Q3.out, Y.out.2, QB.out.trans (Y.out.1.mono (by omega))⟩)
  have L4 := hide (show (∀ b, (Value.slice a2 nC c2).ownBlock = some b → b ≠ w2.heap.size) ∧ (∀ b, (Value.slice s1 nS c1).ownBlock = some b → b ≠ w2.heap.size) from ⟨fun b h => by have := HLT.out.2 b h; omega, fun b h => by have := HLT.out.1 b h; omega⟩)
  clear O1 O2 Q3 QB HLT Y
  go_loopw [30] (fun i wx => ∃ (k n : Nat) (aw : Option Addr) (cw : Nat), k ≤ m ∧ n = nC + k ∧ i = .int .i64 k ∧ Hid (wx.ownsRow (w.heap.size + 2) 70 2 (.slice aw n cw) n (wL (wrA A nC a) (wrX X nC t) n)) ∧ Hid (wx.ownsRow (w.heap.size + 2) 9 1 (.slice s1 nS c1) nS (sL S nS)) ∧ Hid (apartV (.slice s1 nS c1) (.slice aw n cw)) ∧ Hid ((∀ b, (Value.slice aw n cw).ownBlock = some b → b ≠ w2.heap.size) ∧ (∀ b, (Value.slice s1 nS c1).ownBlock = some b → b ≠ w2.heap.size)) ∧ Hid (wx.heap[w.heap.size + 1]? = some (.cells #[.slice none 0 0, .slice none 0 0, .string ⟨#[]⟩, .int .i64 0] 30) ∧ wx.heap[w2.heap.size]? = some (.cells #[.slice s1 nS c1, .slice aw n cw] 26) ∧ Below w.heap.size w wx) ∧ w2.heap.size < wx.heap.size) (fun i _ => m - (intOf i).toNat)
  case atStart => exact ⟨0, nC, a2, c2, Nat.zero_le _, rfl, rfl, by rw [wL_old]; exact L2, L1, HAP, L4, L3, y2⟩
  case round =>
    clear L1 L2 L3 L4 HAP
    obtain ⟨k, n, aw, cw, hk, hn, rfl, hown, hO, hap, hne, hst, hsz⟩ := hrel
    by_cases hlt : k < m
    · have hlt' : (k : Int) < (m : Int) := by omega
      obtain ⟨p, hp⟩ : ∃ p, p = k * 64 := ⟨_, rfl⟩
      have s1p : (k : Int) * 64 = (p : Int) := by omega
      have s1w : IntKind.i64.wrap ((k : Int) * 64) = (p : Int) := by simp only [IntKind.wrap_i64]; omega
      have hpt : p ≤ t.size := by have h9 := HM.out; unfold manyW at h9; omega
      have hrs := run_restW (P := Try.prog) wr 9 t p Try.underlying9 hpt
      obtain ⟨TP, hTP⟩ : ∃ TP, TP = t.extract p t.size := ⟨_, rfl⟩
      have hTPs : TP.size ≤ 20000 := by rw [hTP, ByteArray.size_extract]; omega
      obtain ⟨XP, hXP⟩ : ∃ XP, XP = pieceS t k := ⟨_, rfl⟩
      have HXP := hide (show secS TP = XP by rw [hTP, hXP]; exact secS_piece t k p (by omega) hpt)
      obtain ⟨ap, hap2⟩ : ∃ ap, ap = a + (k : Int) := ⟨_, rfl⟩
      have s2 : a + (k : Int) = ap := hap2.symm
      have s2w : IntKind.i64.wrap ap = ap := by simp only [IntKind.wrap_i64]; omega
      have HN := hide (show wrA A nC a n = ap ∧ wrX X nC t n = XP by
        unfold wrA wrX
        rw [if_neg (by omega), if_neg (by omega), hap2, hXP, show n - nC = k by omega]
        exact ⟨rfl, rfl⟩)
      rw [← hTP] at hrs
      have hn4 : n ≤ 400 := by omega
      have hnb : n < 400 := by omega
      have HNK := hide hn
      clear hTP hXP hap2 hp hn
      go_wp2_with fail
      refine (imp_sectorOf TP wr (by omega)).mono ?_
      rintro e w3 ⟨rfl, hb3⟩
      have hs3 := hb3.size
      obtain ⟨g3, hg3⟩ : ∃ g3, g3 = w3.heap.size := ⟨_, rfl⟩
      clear hrs s1p s1w
      go_wp2_with (first | (with_reducible (show wpList _ _ _ ({ dst := _, op := .alloc _, type := _, pos := _, after := _, guard := _ } :: _) _ _); refine wpList_alloc_sec w3 rfl (some 11) rfl 66 rfl (Try.zero63 _) ?_; rw [← hg3]; intro w7 hr7 hb70 hs70) | (with_reducible (show wpList _ _ _ ({ dst := _, op := .store _ (.tmp 11) (.tmp 37), type := _, pos := _, after := _, guard := _ } :: _) _ _); refine wpList_store_sec w7 rfl 66 (.tmp 11) (.tmp 37) rfl g3 TP _ rfl rfl hr7 Try.size63 ?_; intro Wq z10 hgq hsq))
      have BQ := hide (show Below wr.heap.size wr Wq from hb3.trans ⟨hgq.os.trans hb70.os, hgq.tape.trans hb70.tape, hgq.output.trans hb70.output, by omega, fun b hb => (hgq.block b (by omega) (by simp; omega)).trans (hb70.block b (by omega))⟩)
      have hgw : wr.heap.size ≤ g3 := by omega
      have hg3q : g3 < Wq.heap.size := by omega
      have hWq : wr.heap.size ≤ Wq.heap.size := by omega
      have z1 := hide z10
      clear hr7 hb70 hgq z10 hs70 hsq hb3 hs3 hg3
      have SA : ∀ u : World, Below Wq.heap.size Wq u → u.rangeAt g3 0 (bL 64 (bF TP)) ∧ u.cell? ⟨w2.heap.size, 1, none⟩ = some (.slice aw n cw) := fun u hu => by
        have h1 := (hu.block w2.heap.size (by omega)).trans ((BQ.out.block w2.heap.size hsz).trans hst.out.2.1)
        exact ⟨row_range0 (z1.out.of_block (hu.block _ hg3q)), by simp [World.cell?, h1]⟩
      refine wp_region_till (S := fun u => u.rangeAt g3 0 (bL 64 (bF TP)) ∧ u.cell? ⟨w2.heap.size, 1, none⟩ = some (.slice aw n cw)) 11 (by kernel_rfl) (SA _ (Below.refl _ _).drew) (fun hHeld => ?_)
      refine takeT (i := 0) [1, 9, 11] (v := .pointer (some ⟨w2.heap.size, 1, none⟩)) (some 38) rfl rfl (by kernel_rfl) (by kernel_rfl) (by kernel_rfl) (by kernel_rfl) (fun _ _ _ h => h) (Or.inl ⟨by rfl, fun w hSw => by go_simp⟩) hHeld ?_
      simp only [Act.put, List.setIfInBounds_toArray, List.set_cons_zero, List.set_cons_succ]
      refine takeT (i := 1) [9, 11] (v := .slice aw n cw) (some 39) rfl rfl (by kernel_rfl) (by kernel_rfl) (by kernel_rfl) (by kernel_rfl) (fun _ _ _ h => h) (Or.inl ⟨by rfl, fun w hSw => by obtain ⟨s0, s1_⟩ := hSw; go_simp⟩) hHeld ?_
      simp only [Act.put, List.setIfInBounds_toArray, List.set_cons_zero, List.set_cons_succ]
      refine takeT (i := 2) [4, 7, 8, 9, 11] (v := .int .i64 a) (some 40) rfl rfl (by kernel_rfl) (by kernel_rfl) (by kernel_rfl) (by kernel_rfl) (fun _ _ _ h => h) (Or.inl ⟨by rfl, fun w hSw => by go_simp⟩) hHeld ?_
      simp only [Act.put, List.setIfInBounds_toArray, List.set_cons_zero, List.set_cons_succ]
      refine takeT (i := 3) [4, 7, 8, 9, 11] (v := .int .i64 (k : Int)) (some 41) rfl rfl (by kernel_rfl) (by kernel_rfl) (by kernel_rfl) (by kernel_rfl) (fun _ _ _ h => h) (Or.inl ⟨by rfl, fun w hSw => by go_simp⟩) hHeld ?_
      simp only [Act.put, List.setIfInBounds_toArray, List.set_cons_zero, List.set_cons_succ]
      refine takeT (i := 4) [7, 8, 9, 11] (v := .int .i64 ap) (some 42) rfl rfl (by kernel_rfl) (by kernel_rfl) (by kernel_rfl) (by kernel_rfl) (fun _ _ _ h => h) (Or.inl ⟨by rfl, fun w hSw => by go_simp⟩) hHeld ?_
      simp only [Act.put, List.setIfInBounds_toArray, List.set_cons_zero, List.set_cons_succ]
      refine takeT (i := 5) [6, 7, 8, 9, 11] (v := secV TP) (some 43) rfl rfl (by kernel_rfl) (by kernel_rfl) (by kernel_rfl) (by kernel_rfl) (fun _ _ _ h => h) (yieldsB (by rfl) 66 (.tmp 11) rfl g3 0 64 rfl (bF TP) _ (fun w hS => hS.1) Try.underlying66 rfl Try.size63) hHeld ?_
      simp only [Act.put, List.setIfInBounds_toArray, List.set_cons_zero, List.set_cons_succ]
      refine oneT (i := 6) (by kernel_rfl) rfl (fun KK hK => ?_)
      go_simp
      refine (imp_secText TP _).mono ?_
      rintro e w5 ⟨rfl, hb5⟩
      have b5 : Below Wq.heap.size Wq w5 := (Below.refl _ _).drew.trans hb5
      have hW5 := b5.size
      rw [HXP.out]
      go_wp2_with fail
      refine hK.out _ _ (SA _ b5) (fun hHeld => ?_)
      clear hK KK hb5
      refine takeT (i := 7) [8, 9, 11] (v := .agg #[.int .i64 ap, .string XP]) (some 45) rfl rfl (by kernel_rfl) (by kernel_rfl) (by kernel_rfl) (by kernel_rfl) (fun _ _ _ h => h) (Or.inl ⟨by rfl, fun w hSw => by go_simp⟩) hHeld ?_
      simp only [Act.put, List.setIfInBounds_toArray, List.set_cons_zero, List.set_cons_succ]
      refine oneT (i := 8) (by kernel_rfl) rfl (fun KK hK => ?_)
      go_simp
      have b6 : Below Wq.heap.size Wq (w5.alloc (.cells #[.int .i64 ap, .string XP] 70)) := b5.alloc b5.size _
      have nw : ∀ j u, [Value.int .i64 ap, Value.string XP][j]? = some u → (w5.alloc (.cells #[.int .i64 ap, .string XP] 70)).cell? ((⟨w5.heap.size, 0, none⟩ : Addr).add j) = some u := World.news_of_block (heap_alloc_new w5 _)
      generalize hg6 : w5.alloc (.cells #[.int .i64 ap, .string XP] 70) = W6 at *
      have hW6 := b6.size
      refine hK.out _ _ (SA _ b6) (fun hHeld => ?_)
      clear hK KK
      refine oneT (i := 9) (by kernel_rfl) rfl (fun KK hK => ?_)
      have o6 := own_of_block hown.out (fun g hg => (b6.block g (Nat.lt_of_lt_of_le (hown.out.lt g hg).2 hWq)).trans (BQ.out.block g (hown.out.lt g hg).2))
      have O6 := own_of_block hO.out (fun g hg => (b6.block g (Nat.lt_of_lt_of_le (hO.out.lt g hg).2 hWq)).trans (BQ.out.block g (hO.out.lt g hg).2))
      refine step_append_any W6 (some 47) rfl rfl (.tmp 39) (.tmp 46) 24 rfl (w.heap.size + 2) 70 iw (.agg #[.int .i64 0, .string ⟨#[]⟩]) 2 24 Try.underlying24 hiw hzw0 hzw1 hzw2 rfl (by decide) (.slice aw n cw) n _ rfl o6 (some ⟨w5.heap.size, 0, none⟩) 1 1 [.int .i64 ap, .string XP] rfl rfl (.inr ⟨_, rfl, nw⟩) (by intro u hu; simp at hu; rcases hu with rfl | rfl <;> rfl) (by unfold maxLen; omega) (by omega) (by omega) ?_
      intro v9 w9 o9 g9 t9
      obtain ⟨a9, c9, ea⟩ := own_slice o9
      subst ea
      have nb : ∀ b, b < w.heap.size + 2 ∨ b = w2.heap.size → some b ≠ (Value.slice aw n cw).ownBlock := fun b h1 h2 => by
          rcases h1 with h1 | h1
          · have := (hown.out.lt b h2.symm).1; omega
          · exact hne.out.1 b h2.symm h1
      have q : ∀ b, (b < w.heap.size + 2 ∨ b = w2.heap.size) → b < wr.heap.size → w9.heap[b]? = wr.heap[b]? := fun b h1 h2 => (g9.block b (by omega) (nb b h1)).trans ((b6.block b (by omega)).trans (BQ.out.block b h2))
      have r0 := (q (w.heap.size + 1) (by omega) (by omega)).trans hst.out.1
      have r1 := (q w2.heap.size (.inr rfl) (by omega)).trans hst.out.2.1
      have bw : Below w.heap.size w w9 := (hst.out.2.2.trans ((BQ.out.mono (by omega)).trans (b6.mono (by omega)))).grown g9 (by omega) (fun k hk => by have := (hown.out.lt k hk).1; omega)
      have d0 : w9.cell? ⟨w2.heap.size, 1, none⟩ = some (.slice aw n cw) := by simp [World.cell?, r1]
      have f0 : w9.frozen? ⟨w2.heap.size, 1, none⟩ = false := by simp [World.frozen?, r1]
      have hs9 : W6.heap.size ≤ w9.heap.size := g9.size
      have S9 : w9.rangeAt g3 0 (bL 64 (bF TP)) ∧ w9.cell? ⟨w2.heap.size, 1, none⟩ = some (.slice aw n cw) := ⟨row_range0 (z1.out.of_block ((g9.block g3 (by omega) (fun e => by have := (hown.out.lt g3 e.symm).2; omega)).trans (b6.block g3 (by omega)))), d0⟩
      have AP : apartV (.slice s1 nS c1) (.slice a9 (n + 1) c9) := fun b hb e => by
          rcases t9 b e with h | h
          · exact hap.out b hb h
          · have := (O6.lt b hb).2; omega
      have NE : ∀ b, (Value.slice a9 (n + 1) c9).ownBlock = some b → b ≠ w2.heap.size := fun b e => by
          rcases t9 b e with h | h
          · exact hne.out.1 b h
          · omega
      simp only [Act.put, List.setIfInBounds_toArray, List.set_cons_zero, List.set_cons_succ]
      refine hK.out _ _ S9 (fun hHeld => ?_)
      clear hK KK
      refine takeT (i := 10) [11] (v := .pointer (some ⟨w2.heap.size, 1, none⟩)) (some 48) rfl rfl (by kernel_rfl) (by kernel_rfl) (by kernel_rfl) (by kernel_rfl) (fun _ _ _ h => h) (Or.inl ⟨by rfl, fun w hSw => by go_simp⟩) hHeld ?_
      simp only [Act.put, List.setIfInBounds_toArray, List.set_cons_zero, List.set_cons_succ]
      refine lastT (by kernel_rfl) rfl (fun KK hK => ?_)
      go_simp
      have R1 := hide (show (w9.setCell ⟨w2.heap.size, 1, none⟩ (.slice a9 (n + 1) c9)).ownsRow (w.heap.size + 2) 70 2 (.slice a9 (n + 1) c9) (n + 1) (wL (wrA A nC a) (wrX X nC t) (n + 1)) from own_of_block (by rw [wL_snoc, HN.out.1, HN.out.2]; exact o9) (fun b hb => set1_o _ _ _ _ _ (NE b hb)))
      have R4 := hide (show (w9.setCell ⟨w2.heap.size, 1, none⟩ (.slice a9 (n + 1) c9)).ownsRow (w.heap.size + 2) 9 1 (.slice s1 nS c1) nS (sL S nS) from own_of_block O6 (fun b hb => (set1_o _ _ _ _ _ (hne.out.2 b hb)).trans (g9.block b (O6.lt b hb).2 (fun e => hap.out b hb e.symm))))
      have R2 := hide (show (w9.setCell ⟨w2.heap.size, 1, none⟩ (.slice a9 (n + 1) c9)).heap[w.heap.size + 1]? = some (.cells #[.slice none 0 0, .slice none 0 0, .string ⟨#[]⟩, .int .i64 0] 30) ∧ (w9.setCell ⟨w2.heap.size, 1, none⟩ (.slice a9 (n + 1) c9)).heap[w2.heap.size]? = some (.cells #[.slice s1 nS c1, .slice a9 (n + 1) c9] 26) ∧ Below w.heap.size w (w9.setCell ⟨w2.heap.size, 1, none⟩ (.slice a9 (n + 1) c9)) from ⟨(set1_o _ _ _ _ _ (by omega)).trans r0, by simp [World.setCell, Array.getElem?_modify, r1], below_set bw _ 1 (by omega) _⟩)
      have R3 : w2.heap.size < (w9.setCell ⟨w2.heap.size, 1, none⟩ (.slice a9 (n + 1) c9)).heap.size := by simp [World.setCell]; omega
      have R5 := hide AP
      have R6 := hide (And.intro NE hne.out.2)
      have hk4 : (k : Int) ≤ 400 := by omega
      clear r0 r1 bw o9 g9 t9 nb q hst hown hO o6 O6 nw hap hne AP NE S9 SA z1 BQ
      refine hK.out _ _ ?_
      clear hK KK
      refine wpAnyT_done (by kernel_rfl) ?_ _
      go_wp2_with fail
      go_roundw
      case rel => exact ⟨k + 1, n + 1, a9, c9, by omega, by have := HNK.out; omega, by go_num, R1, R4, R5, R6, R2, R3⟩
      case measure => simp [intOf]; omega
    · have hlt' : ¬ (k : Int) < (m : Int) := by omega
      have hkm : m = k := by omega
      have hnn : nC + m = n := by omega
      have x0 : wr.cell? ⟨w2.heap.size, 0, none⟩ = some (.slice s1 nS c1) := by simp [World.cell?, hst.out.2.1]
      have x1 : wr.cell? ⟨w2.heap.size, 1, none⟩ = some (.slice aw n cw) := by simp [World.cell?, hst.out.2.1]
      have r3 := hst.out.1
      have oc0 : wr.cell? ⟨w.heap.size + 1, 0, none⟩ = some (.slice none 0 0) := by simp [World.cell?, r3]
      have f0 : wr.frozen? ⟨w.heap.size + 1, 0, none⟩ = false := by simp [World.frozen?, r3]
      have oc1 : wr.cell? ⟨w.heap.size + 1, 1, none⟩ = some (.slice none 0 0) := by simp [World.cell?, r3]
      have f1 : wr.frozen? ⟨w.heap.size + 1, 1, none⟩ = false := by simp [World.frozen?, r3]
      have oc2 : wr.cell? ⟨w.heap.size + 1, 2, none⟩ = some (.string ⟨#[]⟩) := by simp [World.cell?, r3]
      have f2 : wr.frozen? ⟨w.heap.size + 1, 2, none⟩ = false := by simp [World.frozen?, r3]
      have oc3 : wr.cell? ⟨w.heap.size + 1, 3, none⟩ = some (.int .i64 0) := by simp [World.cell?, r3]
      have f3 : wr.frozen? ⟨w.heap.size + 1, 3, none⟩ = false := by simp [World.frozen?, r3]
      have HR := hide r3
      have HB := hide hst.out.2.2
      have HNN := hide hnn
      clear r3 hkm hnn hn
      go_wp2_with fail
      have fin := set4_blk wr (w.heap.size + 1) _ _ _ _ (.slice s1 nS c1) (.slice aw n cw) (.string ⟨#[]⟩) (.int .i64 0) _ HR.out
      have hbf := below_set4 HB.out (w.heap.size + 1) (by omega) (.slice s1 nS c1) (.slice aw n cw) (.string ⟨#[]⟩) (.int .i64 0)
      have u7 : ∀ g, g ≠ w.heap.size + 1 → ((((wr.setCell ⟨w.heap.size + 1, 0, none⟩ (.slice s1 nS c1)).setCell ⟨w.heap.size + 1, 1, none⟩ (.slice aw n cw)).setCell ⟨w.heap.size + 1, 2, none⟩ (.string ⟨#[]⟩)).setCell ⟨w.heap.size + 1, 3, none⟩ (.int .i64 0)).heap[g]? = wr.heap[g]? := fun g hg => (set1_o _ _ _ _ _ hg).trans ((set1_o _ _ _ _ _ hg).trans ((set1_o _ _ _ _ _ hg).trans (set1_o _ _ _ _ _ hg)))
      have u4 := own_base (own_of_block hO.out (fun b hb => u7 b (by have := (hO.out.lt b hb).1; omega))) (show w.heap.size ≤ w.heap.size + 2 by omega)
      have u5 := own_base (own_of_block hown.out (fun b hb => u7 b (by have := (hown.out.lt b hb).1; omega))) (show w.heap.size ≤ w.heap.size + 2 by omega)
      exact bodyPost_ret (results_cell_row Try.results10 _ _ (w.heap.size + 1) 30 #[.slice s1 nS c1, .slice aw n cw, .string ⟨#[]⟩, .int .i64 0] (0, 0) _ rfl fin Try.underlying30 rfl (by kernel_rfl)) rfl ⟨_, _, rfl, u4, (by rw [HNN.out]; exact u5), hap.out, hbf⟩
end Go.Proofs.Ytipeelkmmjgehab
