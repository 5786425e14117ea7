/- The walk over the program's tokenAt (written by mktok.py). -/
import Derived.Sort.QuietIn
import Derived.WalkMore
import Derived.Test.YtconcnndghmdfaaGreatDoorSf33
import Derived.Test.YtconcnndghmdfaaGreatDoorSf38
namespace Go.Proofs.YtconcnndghmdfaaGreatDoor
open Go Go.RowKit Go.Shelf
attribute [local go_sem] Oper.semAt_some
def noPan (Q : Exit → Act → World → Prop) : Exit → Act → World → Prop
 | .panic _, _, _ => False
 | e, a, w => Q e a w
theorem noPan_to (Q : Exit → Act → World → Prop) : ∀ e a w, noPan Q e a w → Q e a w := fun e a w h => by
 cases e <;> first | exact h | exact h.elim
theorem set3_block (w : World) (g : Nat) (x y z a b c : Value) (t : TypeId) (h : w.heap[g]? = some (.cells #[x, y, z] t)) : (((w.setCell ⟨g, 0, none⟩ a).setCell ⟨g, 1, none⟩ b).setCell ⟨g, 2, none⟩ c).heap[g]? = some (.cells #[a, b, c] t) := by
 simp [World.setCell, Array.getElem?_modify, h]
theorem below_set3 {B : Nat} {w W : World} (h : Below B w W) (g : Nat) (hg : B ≤ g) (a b c : Value) : Below B w (((W.setCell ⟨g, 0, none⟩ a).setCell ⟨g, 1, none⟩ b).setCell ⟨g, 2, none⟩ c) :=
 ((h.setCell (p := ⟨g, 0, none⟩) hg a).setCell (p := ⟨g, 1, none⟩) hg b).setCell (p := ⟨g, 2, none⟩) hg c
theorem set1_other (w : World) (g k j : Nat) (v : Value) (h : j ≠ g) : (w.setCell ⟨g, k, none⟩ v).heap[j]? = w.heap[j]? := by
 simp [World.setCell, Array.getElem?_modify, Ne.symm h]
theorem set3_other (w : World) (g j : Nat) (a b c : Value) (h : j ≠ g) : (((w.setCell ⟨g, 0, none⟩ a).setCell ⟨g, 1, none⟩ b).setCell ⟨g, 2, none⟩ c).heap[j]? = w.heap[j]? := by
 rw [set1_other _ _ _ _ _ h, set1_other _ _ _ _ _ h, set1_other _ _ _ _ _ h]
theorem set3_size (w : World) (g : Nat) (a b c : Value) : (((w.setCell ⟨g, 0, none⟩ a).setCell ⟨g, 1, none⟩ b).setCell ⟨g, 2, none⟩ c).heap.size = w.heap.size := by
 simp [World.setCell]
theorem keeps_below {W W' : World} (h : Below W.heap.size W W') : KeepsOthers W W' := ⟨h.size, fun k _ hk _ => (h.block k (Array.getElem?_eq_some_iff.1 hk).1).trans hk⟩
theorem byteW (b : UInt8) : IntKind.i64.wrap (b.toNat : Int) = (b.toNat : Int) := by have := b.toNat_lt; simp only [IntKind.wrap_i64]; omega
set_option maxRecDepth 100000 in
set_option maxHeartbeats 1600000 in
theorem imp_tokenAt (p tb mb N cap here base : Nat) (T : Nat → UInt8) (No : Nat → Prop) (w : World) (hP : Pst w p tb mb N cap T) (hM : ∃ es clock, PlM w base mb 3 (plc T N here) No es clock) (hN : N ≤ 4000) (hh : here < N) :
 Calls Tryz.prog 82 #[.pointer (some ⟨p, 0, none⟩), .int .i64 (here : Int)] w fun e w' => e = .returned (.agg #[.int .i64 (tokAt T N here).b, .int .i64 (tokAt T N here).m, .int .i64 (tokAt T N here).f]) ∧ Below w.heap.size w w' := by
 have HP := hide hP
 have HM := hide hM
 have hp := hP.lt
 have c0 := hP.c0
 have htx := (hP.row.2 here hh).1
 have hhc : (here : Int) < (N : Int) := by omega
 refine (callsIn_wide (n := 5)).1 ?_
 refine callsIn_of_wp_marks Tryz.func82 rfl trivial ?_ rfl
 simp only [Tryz.ntmps82, List.size_toArray, List.length_cons, List.length_nil, Nat.reduceAdd, Nat.reduceSub, Array.replicate_succ, Array.replicate_zero, List.push_toArray, List.append_toArray, List.nil_append, List.cons_append]
 refine Go.wpIn_mono (Q := noPan _) ?_ (noPan_to _)
 refine wpIn_wide.2 ?_
 clear hP hM
 go_wp2_with fail
 obtain ⟨B, hB⟩ : ∃ B, B = w.heap.size := ⟨_, rfl⟩
 have hb0 : Below B w (((w.alloc (.cells #[.pointer (some ⟨p, 0, none⟩)] 114)).alloc (.cells #[.int .i64 (here : Int)] 3)).alloc (.cells #[.int .i64 0, .int .i64 0, .int .i64 0] 80)) := by
  rw [hB]; exact (((Below.refl _ w).alloc (Nat.le_refl _) _).alloc (by simp) _).alloc (by simp; omega) _
 rw [← hB]
 have b2 : (((w.alloc (.cells #[.pointer (some ⟨p, 0, none⟩)] 114)).alloc (.cells #[.int .i64 (here : Int)] 3)).alloc (.cells #[.int .i64 0, .int .i64 0, .int .i64 0] 80)).cell? ⟨B, 0, none⟩ = some (.pointer (some ⟨p, 0, none⟩)) := by rw [hB]; go_simp
 have b3 : (((w.alloc (.cells #[.pointer (some ⟨p, 0, none⟩)] 114)).alloc (.cells #[.int .i64 (here : Int)] 3)).alloc (.cells #[.int .i64 0, .int .i64 0, .int .i64 0] 80)).cell? ⟨B + 1, 0, none⟩ = some (.int .i64 (here : Int)) := by rw [hB]; go_simp
 have b4 : (((w.alloc (.cells #[.pointer (some ⟨p, 0, none⟩)] 114)).alloc (.cells #[.int .i64 (here : Int)] 3)).alloc (.cells #[.int .i64 0, .int .i64 0, .int .i64 0] 80)).heap[B + 1 + 1]? = some (.cells #[.int .i64 0, .int .i64 0, .int .i64 0] 80) := by rw [hB]; have := World.alloc_heap_new ((w.alloc (.cells #[.pointer (some ⟨p, 0, none⟩)] 114)).alloc (.cells #[.int .i64 (here : Int)] 3)) (.cells #[.int .i64 0, .int .i64 0, .int .i64 0] 80); rwa [World.size_alloc, World.size_alloc] at this
 have hs0 : (((w.alloc (.cells #[.pointer (some ⟨p, 0, none⟩)] 114)).alloc (.cells #[.int .i64 (here : Int)] 3)).alloc (.cells #[.int .i64 0, .int .i64 0, .int .i64 0] 80)).heap.size = B + 3 := by rw [hB]; simp
 generalize (((w.alloc (.cells #[.pointer (some ⟨p, 0, none⟩)] 114)).alloc (.cells #[.int .i64 (here : Int)] 3)).alloc (.cells #[.int .i64 0, .int .i64 0, .int .i64 0] 80)) = W0 at *
 have c0' : W0.cell? ⟨p, 0, none⟩ = some (.slice (some ⟨tb, 0, none⟩) N cap) := (hb0.cell (p := ⟨p, 0, none⟩) (by show p < B; omega)).trans c0
 have htx' : W0.cell? ⟨tb, here, none⟩ = some (.int .u8 ((T here).toNat : Int)) := (hb0.cell (p := ⟨tb, here, none⟩) (by show tb < B; have := HP.out.row.1; omega)).trans htx
 clear c0 htx
 have htb : tb < B := by have := HP.out.row.1; omega
 have hpB : p < B := by omega
 have HB := hide hB
 clear hp hB
 refine wp_scope_straight ?_
 have SA : ∀ u : World, (∀ g, g < B + 2 → u.heap[g]? = W0.heap[g]?) → u.cell? ⟨B, 0, none⟩ = some (.pointer (some ⟨p, 0, none⟩)) ∧ u.cell? ⟨B + 1, 0, none⟩ = some (.int .i64 (here : Int)) ∧ u.cell? ⟨p, 0, none⟩ = some (.slice (some ⟨tb, 0, none⟩) N cap) ∧ u.cell? ⟨tb, here, none⟩ = some (.int .u8 ((T here).toNat : Int)) := fun u hu =>
  ⟨(World.cell?_of_block (w := W0) (a := ⟨B, 0, none⟩) (hu B (by omega))).trans b2, (World.cell?_of_block (w := W0) (a := ⟨B + 1, 0, none⟩) (hu (B + 1) (by omega))).trans b3, (World.cell?_of_block (w := W0) (a := ⟨p, 0, none⟩) (hu p (by omega))).trans c0', (World.cell?_of_block (w := W0) (a := ⟨tb, here, none⟩) (hu tb (by omega))).trans htx'⟩
 go_wp2_with fail
 refine wp_region_held_drew (S := fun w' => w'.cell? ⟨B, 0, none⟩ = some (.pointer (some ⟨p, 0, none⟩)) ∧ w'.cell? ⟨B + 1, 0, none⟩ = some (.int .i64 (here : Int)) ∧ w'.cell? ⟨p, 0, none⟩ = some (.slice (some ⟨tb, 0, none⟩) N cap) ∧ w'.cell? ⟨tb, here, none⟩ = some (.int .u8 ((T here).toNat : Int))) (by kernel_rfl) (SA _ (fun _ _ => rfl)) (fun hHeld => ?_)
 refine takeD (i := 0) (v := .pointer (some ⟨p, 0, none⟩)) (some 13) rfl rfl (by kernel_rfl) (by kernel_rfl) (by kernel_rfl) (fun _ _ _ h => h) (Or.inl ⟨by rfl, fun w hSw => by obtain ⟨q1, q2, q3, q4⟩ := hSw; go_simp⟩) hHeld ?_
 simp only [Act.put, List.setIfInBounds_toArray, List.set_cons_zero, List.set_cons_succ]
 refine takeD (i := 1) (v := .pointer (some ⟨p, 0, none⟩)) (some 14) rfl rfl (by kernel_rfl) (by kernel_rfl) (by kernel_rfl) (fun _ _ _ h => h) (Or.inl ⟨by rfl, fun w hSw => by obtain ⟨q1, q2, q3, q4⟩ := hSw; go_simp⟩) hHeld ?_
 simp only [Act.put, List.setIfInBounds_toArray, List.set_cons_zero, List.set_cons_succ]
 refine takeD (i := 2) (v := .pointer (some ⟨p, 0, none⟩)) (some 15) rfl rfl (by kernel_rfl) (by kernel_rfl) (by kernel_rfl) (fun _ _ _ h => h) (Or.inl ⟨by rfl, fun w hSw => by obtain ⟨q1, q2, q3, q4⟩ := hSw; go_simp⟩) hHeld ?_
 simp only [Act.put, List.setIfInBounds_toArray, List.set_cons_zero, List.set_cons_succ]
 refine takeD (i := 3) (v := .slice (some ⟨tb, 0, none⟩) N cap) (some 16) rfl rfl (by kernel_rfl) (by kernel_rfl) (by kernel_rfl) (fun _ _ _ h => h) (Or.inl ⟨by rfl, fun w hSw => by obtain ⟨q1, q2, q3, q4⟩ := hSw; go_simp⟩) hHeld ?_
 simp only [Act.put, List.setIfInBounds_toArray, List.set_cons_zero, List.set_cons_succ]
 refine takeD (i := 4) (v := .int .i64 (here : Int)) (some 17) rfl rfl (by kernel_rfl) (by kernel_rfl) (by kernel_rfl) (fun _ _ _ h => h) (Or.inl ⟨by rfl, fun w hSw => by obtain ⟨q1, q2, q3, q4⟩ := hSw; go_simp⟩) hHeld ?_
 simp only [Act.put, List.setIfInBounds_toArray, List.set_cons_zero, List.set_cons_succ]
 refine takeD (i := 5) (v := .pointer (some ⟨tb, here, none⟩)) (some 18) rfl rfl (by kernel_rfl) (by kernel_rfl) (by kernel_rfl) (fun _ _ _ h => h) (Or.inl ⟨by rfl, fun w hSw => by obtain ⟨q1, q2, q3, q4⟩ := hSw; go_simp⟩) hHeld ?_
 simp only [Act.put, List.setIfInBounds_toArray, List.set_cons_zero, List.set_cons_succ]
 refine takeD (i := 6) (v := .int .u8 ((T here).toNat : Int)) (some 19) rfl rfl (by kernel_rfl) (by kernel_rfl) (by kernel_rfl) (fun _ _ _ h => h) (Or.inl ⟨by rfl, fun w hSw => by obtain ⟨q1, q2, q3, q4⟩ := hSw; go_simp⟩) hHeld ?_
 simp only [Act.put, List.setIfInBounds_toArray, List.set_cons_zero, List.set_cons_succ]
 refine takeD (i := 7) (v := .int .i64 ((T here).toNat : Int)) (some 20) rfl rfl (by kernel_rfl) (by kernel_rfl) (by kernel_rfl) (fun _ _ _ h => h) (Or.inl ⟨by rfl, fun w hSw => by go_simp; exact byteW _⟩) hHeld ?_
 simp only [Act.put, List.setIfInBounds_toArray, List.set_cons_zero, List.set_cons_succ]
 refine takeD (i := 8) (v := .agg #[.int .i64 ((T here).toNat : Int), .int .i64 0, .int .i64 0]) (some 21) rfl rfl (by kernel_rfl) (by kernel_rfl) (by kernel_rfl) (fun _ _ _ h => h) (Or.inl ⟨by rfl, fun w hSw => by go_simp⟩) hHeld ?_
 simp only [Act.put, List.setIfInBounds_toArray, List.set_cons_zero, List.set_cons_succ]
 refine wpAnyH_ready (rs := [9]) (by kernel_rfl) (by simp) ?_
 refine AllReadyH.cons rfl (fun KK hK => ?_) AllReadyH.nil
 go_simp
 refine hK.out _ _ (SA _ (fun g hg => by show (W0.alloc _).heap[g]? = _; exact Below.heap_alloc _ _ _ (by omega))) (fun hHeld => ?_)
 clear hK KK
 refine wpAnyH_ready (rs := [10]) (by kernel_rfl) (by simp) ?_
 refine AllReadyH.cons rfl (fun KK hK => ?_) AllReadyH.nil
 go_simp
 refine hK.out _ _ (SA _ (fun g hg => by show (W0.alloc _).heap[g]? = _; exact Below.heap_alloc _ _ _ (by omega))) (fun hHeld => ?_)
 clear hK KK
 refine wpAnyH_done (by kernel_rfl) ?_ _
 have q1 : Below B w (W0.alloc (.cells #[.int .i64 ((T here).toNat : Int), .int .i64 0, .int .i64 0] 80)).drew := (hb0.alloc (by omega) _).drew
 have q2 : (W0.alloc (.cells #[.int .i64 ((T here).toNat : Int), .int .i64 0, .int .i64 0] 80)).drew.heap.size = B + 4 := by show (W0.alloc _).heap.size = _; rw [World.size_alloc, hs0]
 have q3 : (W0.alloc (.cells #[.int .i64 ((T here).toNat : Int), .int .i64 0, .int .i64 0] 80)).drew.heap[B + 3]? = some (.cells #[.int .i64 ((T here).toNat : Int), .int .i64 0, .int .i64 0] 80) := by have := World.alloc_heap_new W0 (.cells #[.int .i64 ((T here).toNat : Int), .int .i64 0, .int .i64 0] 80); rw [hs0] at this; exact this
 have q4 : (W0.alloc (.cells #[.int .i64 ((T here).toNat : Int), .int .i64 0, .int .i64 0] 80)).drew.heap[B + 2]? = some (.cells #[.int .i64 0, .int .i64 0, .int .i64 0] 80) := (Below.heap_alloc W0 _ _ (by omega)).trans b4
 have q5 : (W0.alloc (.cells #[.int .i64 ((T here).toNat : Int), .int .i64 0, .int .i64 0] 80)).drew.heap[B]? = W0.heap[B]? := Below.heap_alloc W0 _ _ (by omega)
 have q6 : (W0.alloc (.cells #[.int .i64 ((T here).toNat : Int), .int .i64 0, .int .i64 0] 80)).drew.heap[B + 1]? = W0.heap[B + 1]? := Below.heap_alloc W0 _ _ (by omega)
 generalize (W0.alloc (.cells #[.int .i64 ((T here).toNat : Int), .int .i64 0, .int .i64 0] 80)).drew = W1 at *
 have b2' := (World.cell?_of_block (w := W0) (a := ⟨B, 0, none⟩) q5).trans b2
 have b3' := (World.cell?_of_block (w := W0) (a := ⟨B + 1, 0, none⟩) q6).trans b3
 clear hHeld SA b2 b3 b4 c0' htx' hb0 hs0 q5 q6
 have HP1 := hide (HP.out.below (by rw [← HB.out]; exact q1))
 have HM1 := hide (show ∃ es clock, PlM W1 base mb 3 (plc T N here) No es clock from by
  obtain ⟨es, clock, h⟩ := HM.out
  exact ⟨es, clock, h.below (by rw [← HB.out]; exact q1)⟩)
 clear HP HM
 obtain ⟨ok, hok⟩ : ∃ ok, ok = decide (here + 3 ≤ N) := ⟨_, rfl⟩
 have SO := hide (imp_openingAt p tb mb N cap here T W1 HP1.out hN (by omega) ok hok)
 obtain ⟨KF, hKF⟩ : ∃ KF, KF = opF T N here := ⟨_, rfl⟩
 rw [← hKF] at SO
 have HKF := hide hKF
 have HOK := hide hok
 have HQ := hide (And.intro q1 (And.intro q2 (And.intro q3 q4)))
 clear hKF hok q1 q2 q3 q4
 go_wp2_with fail
 refine (SO.out).mono ?_
 rintro e w1 ⟨rfl, hb1⟩
 have hs1 := hb1.size
 have e2 : w1.cell? ⟨B, 0, none⟩ = some (.pointer (some ⟨p, 0, none⟩)) := (hb1.cell (p := ⟨B, 0, none⟩) (by show B < _; have := HQ.out.2.1; omega)).trans b2'
 have e3 : w1.cell? ⟨B + 1, 0, none⟩ = some (.int .i64 (here : Int)) := (hb1.cell (p := ⟨B + 1, 0, none⟩) (by show B + 1 < _; have := HQ.out.2.1; omega)).trans b3'
 have HQ1 := hide (show Below B w w1 ∧ B + 4 ≤ w1.heap.size ∧ w1.heap[B + 3]? = some (.cells #[.int .i64 ((T here).toNat : Int), .int .i64 0, .int .i64 0] 80) ∧ w1.heap[B + 2]? = some (.cells #[.int .i64 0, .int .i64 0, .int .i64 0] 80) from by
  obtain ⟨q1, q2, q3, q4⟩ := HQ.out
  exact ⟨q1.trans (hb1.mono (by omega)), by omega, (hb1.block (B + 3) (by omega)).trans q3, (hb1.block (B + 2) (by omega)).trans q4⟩)
 have HP2 := hide (HP1.out.below hb1)
 have HM2 := hide (show ∃ es clock, PlM w1 base mb 3 (plc T N here) No es clock from by
  obtain ⟨es, clock, h⟩ := HM1.out
  exact ⟨es, clock, h.below hb1⟩)
 clear HQ HP1 HM1 SO b2' b3' hb1 hs1
 obtain ⟨Z, hZ⟩ : ∃ Z, Z = w1.heap.size := ⟨_, rfl⟩
 obtain ⟨W, hW⟩ : ∃ W, W = (w1.alloc (.cells #[.int .u8 0, .int .u8 0, .int .u8 0] 153)) := ⟨_, rfl⟩
 have r7 : W.rowIs w1.heap.size 153 3 (u8V fun _ => 0) := by rw [hW]; exact zeros8_row 3 w1 _ _ rfl
 have hbW : Below w1.heap.size w1 W := by rw [hW]; exact (Below.refl _ w1).alloc (Nat.le_refl _) _
 have hWs : W.heap.size = w1.heap.size + 1 := by rw [hW]; simp
 have HW' := hide (show (w1.alloc (.cells #[.int .u8 0, .int .u8 0, .int .u8 0] 153)) = W from hW.symm)
 have hth := row_there (o := 0) (n := 3) r7 (by omega)
 have hth' : (w1.alloc (.cells #[.int .u8 0, .int .u8 0, .int .u8 0] 153)).there w1.heap.size 0 3 := by rw [HW'.out]; exact hth
 have r7s := row_setCells0 (k := KF) r7
 have hbS := below_setCells' (b := w1.heap.size) (o := 0) (vs := bL 3 KF) hbW (Nat.le_refl _)
 have hSz : (W.setCells w1.heap.size 0 (bL 3 KF)).heap.size = w1.heap.size + 1 := by rw [size_setCells]; exact hWs
 have G := hide (And.intro r7s (And.intro hbS hSz))
 have HZ := hide hZ
 clear r7 hbW hWs r7s hbS hSz hth hW hZ
 obtain ⟨W2, hW2⟩ : ∃ W2, W2 = W.setCells w1.heap.size 0 (bL 3 KF) := ⟨_, rfl⟩
 rw [← hW2] at G
 have HW2 := hide hW2.symm
 clear hW2
 have f2 : W2.cell? ⟨B, 0, none⟩ = some (.pointer (some ⟨p, 0, none⟩)) := (G.out.2.1.cell (p := ⟨B, 0, none⟩) (by show B < _; have := HQ1.out.2.1; omega)).trans e2
 have f3 : W2.cell? ⟨B + 1, 0, none⟩ = some (.int .i64 (here : Int)) := (G.out.2.1.cell (p := ⟨B + 1, 0, none⟩) (by show B + 1 < _; have := HQ1.out.2.1; omega)).trans e3
 have HQ2 := hide (show Below B w W2 ∧ B + 4 ≤ Z ∧ W2.heap.size = Z + 1 ∧ W2.heap[B + 3]? = some (.cells #[.int .i64 ((T here).toNat : Int), .int .i64 0, .int .i64 0] 80) ∧ W2.heap[B + 2]? = some (.cells #[.int .i64 0, .int .i64 0, .int .i64 0] 80) from by
  obtain ⟨q1, q2, q3, q4⟩ := HQ1.out
  obtain ⟨_, g2, g3⟩ := G.out
  have := HZ.out
  exact ⟨q1.trans (g2.mono (by omega)), by omega, by omega, (g2.block (B + 3) (by omega)).trans q3, (g2.block (B + 2) (by omega)).trans q4⟩)
 have HP3 := hide (HP2.out.below G.out.2.1)
 have HM3 := hide (show ∃ es clock, PlM W2 base mb 3 (plc T N here) No es clock from by
  obtain ⟨es, clock, h⟩ := HM2.out
  exact ⟨es, clock, h.below G.out.2.1⟩)
 have HR := hide (show W2.rowIs Z 153 3 (u8V KF) from by rw [HZ.out]; exact G.out.1)
 clear G HQ1 HP2 HM2
 cases ok with
 | false =>
   have hk3 : ¬ here + 3 ≤ N := of_decide_eq_false HOK.out.symm
   obtain ⟨q1, q2, q3, q4, q5⟩ := HQ2.out
   have k0 : W2.cell? ⟨B + 3, 0, none⟩ = some (.int .i64 ((T here).toNat : Int)) := by simp [World.cell?, q4]
   have k1 : W2.cell? ⟨B + 3, 1, none⟩ = some (.int .i64 0) := by simp [World.cell?, q4]
   have k2 : W2.cell? ⟨B + 3, 2, none⟩ = some (.int .i64 0) := by simp [World.cell?, q4]
   have l0 : W2.cell? ⟨B + 1 + 1, 0, none⟩ = some (.int .i64 0) := by simp [World.cell?, q5]
   have l1 : W2.cell? ⟨B + 1 + 1, 1, none⟩ = some (.int .i64 0) := by simp [World.cell?, q5]
   have l2 : W2.cell? ⟨B + 1 + 1, 2, none⟩ = some (.int .i64 0) := by simp [World.cell?, q5]
   have z0 : W2.frozen? ⟨B + 1 + 1, 0, none⟩ = false := by simp [World.frozen?, q5]
   have z1 : W2.frozen? ⟨B + 1 + 1, 1, none⟩ = false := by simp [World.frozen?, q5]
   have z2 : W2.frozen? ⟨B + 1 + 1, 2, none⟩ = false := by simp [World.frozen?, q5]
   clear q1 q2 q3 q4
   go_wp2_with (refine wpList_store_B rfl 153 (.tmp 6) (.tmp 26) rfl w1.heap.size 0 3 KF rfl rfl hth' Tryz.size3 ?_; rw [HW'.out, HW2.out])
   have hfin := set3_block W2 (B + 1 + 1) _ _ _ (.int .i64 ((T here).toNat : Int)) (.int .i64 0) (.int .i64 0) _ q5
   have hbl := below_set3 HQ2.out.1 (B + 1 + 1) (by omega) (.int .i64 ((T here).toNat : Int)) (.int .i64 0) (.int .i64 0)
   generalize (((W2.setCell ⟨B + 1 + 1, 0, none⟩ (.int .i64 ((T here).toNat : Int))).setCell ⟨B + 1 + 1, 1, none⟩ (.int .i64 0)).setCell ⟨B + 1 + 1, 2, none⟩ (.int .i64 0)) = W3 at *
   have m0 : W3.cell? ⟨B + 1 + 1, 0, none⟩ = some (.int .i64 ((T here).toNat : Int)) := by simp [World.cell?, hfin]
   have m1 : W3.cell? ⟨B + 1 + 1, 1, none⟩ = some (.int .i64 0) := by simp [World.cell?, hfin]
   have m2 : W3.cell? ⟨B + 1 + 1, 2, none⟩ = some (.int .i64 0) := by simp [World.cell?, hfin]
   refine ⟨.agg #[.int .i64 ((T here).toNat : Int), .int .i64 0, .int .i64 0], ?_, ?_, ?_⟩
   · simp [results, Tryz.results82, go_sem, m0, m1, m2]
   · rw [tokAt_small T N here hk3]; rfl
   · rw [← HB.out]; exact hbl
 | true =>
   have hk3 : here + 3 ≤ N := of_decide_eq_true HOK.out.symm
   obtain ⟨M, hM⟩ : ∃ M, M = min 66 (N - here) := ⟨_, rfl⟩
   have hMc : (M = 66 ∧ 66 ≤ N - here) ∨ (M = N - here ∧ N - here ≤ 66) := by omega
   have hM1 : 3 ≤ M := by omega
   have hM2 : here + M ≤ N := by omega
   have HMc := hide hMc
   have HM' := hide hM
   clear hM hMc
   go_wp2_with (refine wpList_store_B rfl 153 (.tmp 6) (.tmp 26) rfl w1.heap.size 0 3 KF rfl rfl hth' Tryz.size3 ?_; rw [HW'.out, HW2.out])
   rw [← HZ.out]
   clear HW' HW2 hth' e2 e3
   have SA : ∀ u : World, (∀ g, g < B + 2 → u.heap[g]? = W2.heap[g]?) → u.heap.size ≥ W2.heap.size → u.cell? ⟨B, 0, none⟩ = some (.pointer (some ⟨p, 0, none⟩)) ∧ u.cell? ⟨B + 1, 0, none⟩ = some (.int .i64 (here : Int)) ∧ u.cell? ⟨p, 0, none⟩ = some (.slice (some ⟨tb, 0, none⟩) N cap) ∧ Hid (Pst u p tb mb N cap T) := fun u hu hsz =>
    ⟨(World.cell?_of_block (w := W2) (a := ⟨B, 0, none⟩) (hu B (by omega))).trans f2, (World.cell?_of_block (w := W2) (a := ⟨B + 1, 0, none⟩) (hu (B + 1) (by omega))).trans f3, (World.cell?_of_block (w := W2) (a := ⟨p, 0, none⟩) (hu p (by omega))).trans HP3.out.c0, hide (HP3.out.of_blocks hsz (hu p (by omega)) (hu tb (by omega)))⟩
   refine wp_region_held_drew (S := fun w' => w'.cell? ⟨B, 0, none⟩ = some (.pointer (some ⟨p, 0, none⟩)) ∧ w'.cell? ⟨B + 1, 0, none⟩ = some (.int .i64 (here : Int)) ∧ w'.cell? ⟨p, 0, none⟩ = some (.slice (some ⟨tb, 0, none⟩) N cap) ∧ Hid (Pst w' p tb mb N cap T)) (by kernel_rfl) (SA _ (fun _ _ => rfl) (Nat.le_refl _)) (fun hHeld => ?_)
   refine takeD (i := 0) (v := .pointer (some ⟨p, 0, none⟩)) (some 31) rfl rfl (by kernel_rfl) (by kernel_rfl) (by kernel_rfl) (fun _ _ _ h => h) (Or.inl ⟨by rfl, fun w hSw => by obtain ⟨q1, q2, q3, _⟩ := hSw; go_simp⟩) hHeld ?_
   simp only [Act.put, List.setIfInBounds_toArray, List.set_cons_zero, List.set_cons_succ]
   refine takeD (i := 1) (v := .int .i64 (here : Int)) (some 32) rfl rfl (by kernel_rfl) (by kernel_rfl) (by kernel_rfl) (fun _ _ _ h => h) (Or.inl ⟨by rfl, fun w hSw => by obtain ⟨q1, q2, q3, _⟩ := hSw; go_simp⟩) hHeld ?_
   simp only [Act.put, List.setIfInBounds_toArray, List.set_cons_zero, List.set_cons_succ]
   refine takeD (i := 2) (v := .pointer (some ⟨p, 0, none⟩)) (some 33) rfl rfl (by kernel_rfl) (by kernel_rfl) (by kernel_rfl) (fun _ _ _ h => h) (Or.inl ⟨by rfl, fun w hSw => by obtain ⟨q1, q2, q3, _⟩ := hSw; go_simp⟩) hHeld ?_
   simp only [Act.put, List.setIfInBounds_toArray, List.set_cons_zero, List.set_cons_succ]
   refine takeD (i := 3) (v := .pointer (some ⟨p, 0, none⟩)) (some 34) rfl rfl (by kernel_rfl) (by kernel_rfl) (by kernel_rfl) (fun _ _ _ h => h) (Or.inl ⟨by rfl, fun w hSw => by obtain ⟨q1, q2, q3, _⟩ := hSw; go_simp⟩) hHeld ?_
   simp only [Act.put, List.setIfInBounds_toArray, List.set_cons_zero, List.set_cons_succ]
   refine takeD (i := 4) (v := .pointer (some ⟨p, 0, none⟩)) (some 35) rfl rfl (by kernel_rfl) (by kernel_rfl) (by kernel_rfl) (fun _ _ _ h => h) (Or.inl ⟨by rfl, fun w hSw => by obtain ⟨q1, q2, q3, _⟩ := hSw; go_simp⟩) hHeld ?_
   simp only [Act.put, List.setIfInBounds_toArray, List.set_cons_zero, List.set_cons_succ]
   refine takeD (i := 5) (v := .slice (some ⟨tb, 0, none⟩) N cap) (some 36) rfl rfl (by kernel_rfl) (by kernel_rfl) (by kernel_rfl) (fun _ _ _ h => h) (Or.inl ⟨by rfl, fun w hSw => by obtain ⟨q1, q2, q3, _⟩ := hSw; go_simp⟩) hHeld ?_
   simp only [Act.put, List.setIfInBounds_toArray, List.set_cons_zero, List.set_cons_succ]
   refine takeD (i := 6) (v := .int .i64 (N : Int)) (some 37) rfl rfl (by kernel_rfl) (by kernel_rfl) (by kernel_rfl) (fun _ _ _ h => h) (Or.inl ⟨by rfl, fun w hSw => by go_simp⟩) hHeld ?_
   simp only [Act.put, List.setIfInBounds_toArray, List.set_cons_zero, List.set_cons_succ]
   refine takeD (i := 7) (v := .int .i64 (here : Int)) (some 38) rfl rfl (by kernel_rfl) (by kernel_rfl) (by kernel_rfl) (fun _ _ _ h => h) (Or.inl ⟨by rfl, fun w hSw => by obtain ⟨q1, q2, q3, _⟩ := hSw; go_simp⟩) hHeld ?_
   simp only [Act.put, List.setIfInBounds_toArray, List.set_cons_zero, List.set_cons_succ]
   refine takeD (i := 8) (v := .int .i64 ((N : Int) - (here : Int))) (some 39) rfl rfl (by kernel_rfl) (by kernel_rfl) (by kernel_rfl) (fun _ _ _ h => h) (Or.inl ⟨by rfl, fun w hSw => by go_simp; simp only [IntKind.wrap_i64]; omega⟩) hHeld ?_
   simp only [Act.put, List.setIfInBounds_toArray, List.set_cons_zero, List.set_cons_succ]
   refine takeD (i := 9) (v := .int .i64 (M : Int)) (some 40) rfl rfl (by kernel_rfl) (by kernel_rfl) (by kernel_rfl) (fun _ _ _ h => h) (Or.inl ⟨by rfl, fun w hSw => by have := HM'.out; go_simp; omega⟩) hHeld ?_
   simp only [Act.put, List.setIfInBounds_toArray, List.set_cons_zero, List.set_cons_succ]
   refine takeC (i := 10) (v := .slice (some ⟨tb, here, none⟩) M M) (some 41) rfl rfl (by kernel_rfl) (by kernel_rfl) (by kernel_rfl) (fun _ _ _ h => h) rfl 113 _ _ rfl (enters_of Tryz.func113 (by kernel_rfl) rfl) #[.pointer (some ⟨p, 0, none⟩), .int .i64 (here : Int), .int .i64 (M : Int)] (by simp [Act.eval]) (fun w hSw => imp_cut p tb mb N cap here M T w hSw.2.2.2.out hN (by omega) hM2) hHeld ?_
   simp only [Act.put, List.setIfInBounds_toArray, List.set_cons_zero, List.set_cons_succ]
   refine wpAnyH_ready (rs := [11]) (by kernel_rfl) (by simp) ?_
   refine AllReadyH.cons rfl (fun KK hK => ?_) AllReadyH.nil
   go_simp
   have q3 := HQ2.out.2.2.1
   rw [q3]
   refine hK.out _ _ (SA _ (fun g hg => by show (W2.alloc _).heap[g]? = _; exact Below.heap_alloc _ _ _ (by have := HQ2.out.2.1; omega)) (by show (W2.alloc _).heap.size ≥ _; simp)) (fun hHeld => ?_)
   clear hK KK
   refine wpAnyH_ready (rs := [12]) (by kernel_rfl) (by simp) ?_
   refine AllReadyH.cons rfl (fun KK hK => ?_) AllReadyH.nil
   go_simp
   refine hK.out _ _ (SA _ (fun g hg => by show (W2.alloc _).heap[g]? = _; exact Below.heap_alloc _ _ _ (by have := HQ2.out.2.1; omega)) (by show (W2.alloc _).heap.size ≥ _; simp)) (fun hHeld => ?_)
   clear hK KK
   refine wpAnyH_done (by kernel_rfl) ?_ _
   have x0 : (W2.alloc (.cells #[.slice (some ⟨tb, here, none⟩) M M] 22)).drew.heap[Z + 1]? = some (.cells #[.slice (some ⟨tb, here, none⟩) M M] 22) := by rw [← q3]; exact World.alloc_heap_new W2 _
   have x2 : Below W2.heap.size W2 (W2.alloc (.cells #[.slice (some ⟨tb, here, none⟩) M M] 22)).drew := (((Below.refl _ W2).alloc (Nat.le_refl _) _).drew)
   have x3 : (W2.alloc (.cells #[.slice (some ⟨tb, here, none⟩) M M] 22)).drew.heap.size = Z + 2 := by show (W2.alloc _).heap.size = _; rw [World.size_alloc, q3]
   generalize (W2.alloc (.cells #[.slice (some ⟨tb, here, none⟩) M M] 22)).drew = W3 at *
   have g2 : W3.cell? ⟨B, 0, none⟩ = some (.pointer (some ⟨p, 0, none⟩)) := hHeld.1
   have g3 : W3.cell? ⟨B + 1, 0, none⟩ = some (.int .i64 (here : Int)) := hHeld.2.1
   have HP4 := hHeld.2.2.2
   have HQ3 := hide (show Below B w W3 ∧ B + 4 ≤ Z ∧ W3.heap.size = Z + 2 ∧ W3.heap[B + 3]? = some (.cells #[.int .i64 ((T here).toNat : Int), .int .i64 0, .int .i64 0] 80) ∧ W3.heap[B + 2]? = some (.cells #[.int .i64 0, .int .i64 0, .int .i64 0] 80) ∧ W3.heap[Z + 1]? = some (.cells #[.slice (some ⟨tb, here, none⟩) M M] 22) from by
    obtain ⟨q1, q2, q3, q4, q5⟩ := HQ2.out
    exact ⟨q1.trans (x2.mono (by omega)), q2, x3, (x2.block (B + 3) (by omega)).trans q4, (x2.block (B + 2) (by omega)).trans q5, x0⟩)
   have HR3 := hide (show W3.rowIs Z 153 3 (u8V KF) from HR.out.of_block (x2.block Z (by omega)))
   obtain ⟨es, clock, hPM⟩ : ∃ es clock, PlM W3 base mb 3 (plc T N here) No es clock := by
    obtain ⟨es, clock, h⟩ := HM3.out
    exact ⟨es, clock, h.below x2⟩
   obtain ⟨v, hLK, hov⟩ := hPM.lookup Tryz.lawO Tryz.keyO Tryz.underlying149 Tryz.zeroO KF
   clear hHeld SA x0 x2 x3 q3 HQ2 HP3 HM3 HR f2 f3
   have hmb := hPM.lt
   clear hPM
   have rg7 : W3.rangeAt Z 0 (bL 3 KF) := row_range0 HR3.out
   have hmb' := hmb
   have SB : ∀ u : World, (∀ g, g < W3.heap.size → u.heap[g]? = W3.heap[g]?) → u.cell? ⟨B, 0, none⟩ = some (.pointer (some ⟨p, 0, none⟩)) ∧ u.cell? ⟨p, 1, none⟩ = some (.map (some mb)) ∧ u.rangeAt Z 0 (bL 3 KF) ∧ u.heap[mb]? = W3.heap[mb]? := fun u hu =>
    ⟨(World.cell?_of_block (w := W3) (a := ⟨B, 0, none⟩) (hu B (by have := HQ3.out; omega))).trans g2, (World.cell?_of_block (w := W3) (a := ⟨p, 1, none⟩) (hu p (by have := HQ3.out; omega))).trans HP4.out.c1, fun j v hv => (World.cell?_of_block (w := W3) (a := ⟨Z, 0 + j, none⟩) (hu Z (by have := HQ3.out; omega))).trans (rg7 j v hv), hu mb hmb'⟩
   obtain ⟨n, hn⟩ : ∃ n, n = (plc T N here (kV KF)).length := ⟨_, rfl⟩
   obtain ⟨sa, scp, hv⟩ : ∃ sa scp, v = .slice sa n scp := by
    rw [hn]
    rcases hov.2 with ⟨h1, h2⟩ | ⟨g, c, _, h1, _⟩
    · exact ⟨none, 0, by rw [h1, h2]⟩
    · exact ⟨_, _, h1⟩
   subst hv
   rw [← hn] at hov
   have HN' := hide hn
   clear hn hmb
   go_wp2_with fail
   refine wp_label ?_
   go_wp2_with fail
   refine wp_region_held_drew (S := fun w' => w'.cell? ⟨B, 0, none⟩ = some (.pointer (some ⟨p, 0, none⟩)) ∧ w'.cell? ⟨p, 1, none⟩ = some (.map (some mb)) ∧ w'.rangeAt Z 0 (bL 3 KF) ∧ w'.heap[mb]? = W3.heap[mb]?) (by kernel_rfl) (SB _ (fun _ _ => rfl)) (fun hHeld => ?_)
   refine takeD (i := 0) (v := .pointer (some ⟨p, 0, none⟩)) (some 42) rfl rfl (by kernel_rfl) (by kernel_rfl) (by kernel_rfl) (fun _ _ _ h => h) (Or.inl ⟨by rfl, fun w hSw => by obtain ⟨q1, q2, _, _⟩ := hSw; go_simp⟩) hHeld ?_
   simp only [Act.put, List.setIfInBounds_toArray, List.set_cons_zero, List.set_cons_succ]
   refine takeD (i := 1) (v := .pointer (some ⟨p, 0, none⟩)) (some 43) rfl rfl (by kernel_rfl) (by kernel_rfl) (by kernel_rfl) (fun _ _ _ h => h) (Or.inl ⟨by rfl, fun w hSw => by obtain ⟨q1, q2, _, _⟩ := hSw; go_simp⟩) hHeld ?_
   simp only [Act.put, List.setIfInBounds_toArray, List.set_cons_zero, List.set_cons_succ]
   refine takeD (i := 2) (v := .pointer (some ⟨p, 1, none⟩)) (some 44) rfl rfl (by kernel_rfl) (by kernel_rfl) (by kernel_rfl) (fun _ _ _ h => h) (Or.inl ⟨by rfl, fun w hSw => by obtain ⟨q1, q2, _, _⟩ := hSw; go_simp⟩) hHeld ?_
   simp only [Act.put, List.setIfInBounds_toArray, List.set_cons_zero, List.set_cons_succ]
   refine takeD (i := 3) (v := .map (some mb)) (some 45) rfl rfl (by kernel_rfl) (by kernel_rfl) (by kernel_rfl) (fun _ _ _ h => h) (Or.inl ⟨by rfl, fun w hSw => by obtain ⟨q1, q2, _, _⟩ := hSw; go_simp⟩) hHeld ?_
   simp only [Act.put, List.setIfInBounds_toArray, List.set_cons_zero, List.set_cons_succ]
   refine takeD (i := 4) (v := .agg (bL 3 KF).toArray) (some 46) rfl rfl (by kernel_rfl) (by kernel_rfl) (by kernel_rfl) (fun _ _ _ h => h) (yieldsB (by rfl) 153 (.tmp 6) rfl Z 0 3 rfl KF _ (fun w h => h.2.2.1) Tryz.underlying153 rfl Tryz.size3) hHeld ?_
   simp only [Act.put, List.setIfInBounds_toArray, List.set_cons_zero, List.set_cons_succ]
   refine takeD (i := 5) (v := .slice sa n scp) (some 47) rfl rfl (by kernel_rfl) (by kernel_rfl) (by kernel_rfl) (fun _ _ _ h => h) (Or.inl ⟨by rfl, fun w hSw => by have hl := hLK w hSw.2.2.2; change (Instr.lookup 149 (.map (some mb)) (.agg (bL 3 KF).toArray) false).run _ _ = _ at hl; go_simp⟩) hHeld ?_
   simp only [Act.put, List.setIfInBounds_toArray, List.set_cons_zero, List.set_cons_succ]
   refine wpAnyH_ready (rs := [6]) (by kernel_rfl) (by simp) ?_
   refine AllReadyH.cons rfl (fun KK hK => ?_) AllReadyH.nil
   go_simp
   have hs3 := HQ3.out.2.2.1
   refine (callsIn_wide.1 (back_in Fence.wide 1 trivial rfl sa n scp _)).mono ?_
   rintro e w5 ⟨rfl, rfl⟩
   go_simp
   refine hK.out _ _ (SB _ (fun g hg => by show (W3.alloc _).heap[g]? = _; exact Below.heap_alloc _ _ _ hg)) (fun hHeld => ?_)
   clear hK KK
   refine wpAnyH_done (by kernel_rfl) ?_ _
   go_wp2_with fail
   have y0 : (W3.alloc (.cells #[.slice sa n scp] 160)).drew.heap[Z + 2]? = some (.cells #[.slice sa n scp] 160) := by rw [← hs3]; exact World.alloc_heap_new W3 _
   have y1 : Below W3.heap.size W3 (W3.alloc (.cells #[.slice sa n scp] 160)).drew := ((Below.refl _ W3).alloc (Nat.le_refl _) _).drew
   have y2 : (W3.alloc (.cells #[.slice sa n scp] 160)).drew.heap.size = Z + 3 := by show (W3.alloc _).heap.size = _; rw [World.size_alloc, hs3]
   generalize (W3.alloc (.cells #[.slice sa n scp] 160)).drew = W4 at *
   obtain ⟨z1, z2, z3, z4, z5, z6⟩ := HQ3.out
   have u1 : Below B w W4 := z1.trans (y1.mono (by omega))
   have u4 : W4.heap[B + 3]? = some (.cells #[.int .i64 ((T here).toNat : Int), .int .i64 0, .int .i64 0] 80) := (y1.block (B + 3) (by omega)).trans z4
   have u5 : W4.heap[B + 2]? = some (.cells #[.int .i64 0, .int .i64 0, .int .i64 0] 80) := (y1.block (B + 2) (by omega)).trans z5
   have u6 : W4.heap[Z + 1]? = some (.cells #[.slice (some ⟨tb, here, none⟩) M M] 22) := (y1.block (Z + 1) (by omega)).trans z6
   have u7 : W4.cell? ⟨B, 0, none⟩ = some (.pointer (some ⟨p, 0, none⟩)) := (y1.cell (p := ⟨B, 0, none⟩) (by show B < _; omega)).trans g2
   have u8 : W4.cell? ⟨B + 1, 0, none⟩ = some (.int .i64 (here : Int)) := (y1.cell (p := ⟨B + 1, 0, none⟩) (by show B + 1 < _; omega)).trans g3
   have u9 : Pst W4 p tb mb N cap T := HP4.out.below y1
   have hB2 := z2
   obtain ⟨PL, hPL⟩ : ∃ PL, PL = plc T N here (kV KF) := ⟨_, rfl⟩
   have hnP : n = PL.length := by rw [hPL]; exact HN'.out
   have hPlt : ∀ q ∈ PL, q < here := fun q hq => plc_lt T N here q (kV KF) (hPL ▸ hq)
   have hcells : (Value.slice sa n scp = .slice none 0 0 ∧ n = 0) ∨ ∃ b off c, Value.slice sa n scp = .slice (some ⟨b, off, none⟩) n c ∧ b < Z + 3 ∧ b ≠ B + 3 ∧ ∀ k (h : k < PL.length), W4.cell? ⟨b, off + k, none⟩ = some (.int .i64 (PL[k] : Int)) := by
    rcases hov.2 with h | ⟨g, c, cur, hv, _, hblk, _, _, _, htk⟩
    · exact .inl h
    · have hgl := (Array.getElem?_eq_some_iff.1 hblk).1
      refine .inr ⟨g, 0, c, hv, by omega, fun e => ?_, fun k hk => ?_⟩
      · rw [e, z4] at hblk
        simp at hblk
      · have hb4 := (y1.block g hgl).trans hblk
        have h1 : (cur.toList.take (n * 1))[k]? = some (.int .i64 (PL[k] : Int)) := by
         rw [htk, List.getElem?_map, ← hPL, List.getElem?_eq_getElem hk]; rfl
        rw [List.getElem?_take_of_lt (by omega), Array.getElem?_toList] at h1
        simp [World.cell?, hb4, h1]
   have hn4 : n ≤ 4000 := by have := plc_len T N here (kV KF); rw [← hPL, ← hnP] at this; omega
   have HPL := hide hPL
   have HnP := hide hnP
   have HPlt := hide hPlt
   clear hPL hPlt
   clear HQ3 HP4 HR3 rg7 SB hLK hov hHeld z1 z2 z3 z4 z5 z6 y1 g2 g3 hs3 hmb'
   let α := { x : Nat × Nat // x.2 < here }
   obtain ⟨L, hLl, hLi, hLp⟩ : ∃ L : List α, L.length = n ∧ (∀ k (h : k < L.length), L[k].1.1 = n - 1 - k) ∧ L.map (fun x => x.1.2) = PL.reverse := by
    refine ⟨List.ofFn (fun k : Fin n => (⟨(n - 1 - k.1, PL[n - 1 - k.1]'(by have := k.2; omega)), HPlt.out _ (List.getElem_mem _)⟩ : α)), by simp, fun k h => by simp, ?_⟩
    refine List.ext_getElem (by simp [hnP]) (fun k h1 h2 => ?_)
    simp [hnP]
   clear hnP
   have hst : SeqStopsK Fence.wide 4 Tryz.prog 141 #[.pointer (some ⟨Z + 2, 0, none⟩)] (fun x : α => #[Value.int .i64 (x.1.1 : Int), Value.int .i64 (x.1.2 : Int)]) (KpX (Z + 3) (B + 3)) (fun ys => ys = L) (fun pre => pre <+: L) L.length W4 := by
    refine back_stops (fun x : α => x.1.1) (fun x : α => x.1.2) Fence.wide 4 trivial rfl (by omega) (Z + 2) (Z + 3) (.slice sa n scp) L (by omega) W4 (by omega) (by omega) (by omega) (B + 3) (by omega) (by simp [World.cell?, y0]) (fun k h => by rw [hLi k h, hLl]) ?_
    rcases hcells with ⟨h1, h2⟩ | ⟨b, off, c, h1, h2, h3, h4⟩
    · exact .inl ⟨h1, List.length_eq_zero_iff.1 (by omega)⟩
    · refine .inr ⟨b, off, c, by rw [h1, hLl], h2, h3, fun k hk => ?_⟩
      have e1 : (L.map (fun x => x.1.2))[k]'(by simpa using hk) = PL.reverse[k]'(by rw [← hLp]; simpa using hk) := by simp [hLp]
      rw [List.getElem_map, List.getElem_reverse] at e1
      have hkn : L.length - 1 - k = PL.length - 1 - k := by rw [hLl, HnP.out]
      rw [hkn, e1]
      exact h4 _ (by rw [← HnP.out]; omega)
   have HLp := hide hLp
   clear hLi hLp hcells y0
   refine (wpIn_wide (n := 5)).1 ?_
   refine wpIn_rangeFunc_ownF rfl (by omega) (gf := 141) (lb := #[.pointer (some ⟨Z + 2, 0, none⟩)]) rfl trivial (enters_of Tryz.func141 (by kernel_rfl) rfl) hst (fun h k => h.trans k) (fun W l o o' h1 h2 h3 h4 => ?kb) (Below.refl _ _) (fun _ => rfl)
    (fun pre W => W.heap[B + 3]? = some (.cells #[.int .i64 (tokB T here (foldB T N here (pre.map (fun x => x.1.2)))).b, .int .i64 (tokB T here (foldB T N here (pre.map (fun x => x.1.2)))).m, .int .i64 (tokB T here (foldB T N here (pre.map (fun x => x.1.2)))).f] 80) ∧ (∀ x ∈ pre, here - x.1.2 ≤ 1024) ∧ KpX (Z + 3) (B + 3) W4 W ∧ Below B w W)
    (fun c pre W => c = .exit 0 ∧ ∃ ini x, pre = ini ++ [x] ∧ W.heap[B + 3]? = some (.cells #[.int .i64 (tokB T here (foldB T N here (ini.map (fun x => x.1.2)))).b, .int .i64 (tokB T here (foldB T N here (ini.map (fun x => x.1.2)))).m, .int .i64 (tokB T here (foldB T N here (ini.map (fun x => x.1.2)))).f] 80) ∧ (∀ x ∈ ini, here - x.1.2 ≤ 1024) ∧ (1024 < here - x.1.2 ∨ sizeB (foldB T N here (ini.map (fun x => x.1.2))) = M) ∧ KpX (Z + 3) (B + 3) W4 W ∧ Below B w W)
    ?hI ?hIx ?h0
    (fun x => { tmps := #[.pointer (some ⟨p, 0, none⟩), .int .i64 (here : Int), .pointer (some ⟨B, 0, none⟩), .pointer (some ⟨B + 1, 0, none⟩), .pointer (some ⟨B + 1 + 1, 0, none⟩), .pointer (some ⟨B + 3, 0, none⟩), .pointer (some ⟨Z, 0, none⟩), .bool true, .pointer (some ⟨Z + 1, 0, none⟩), undef, .int .i64 (x.1.2 : Int), undef, undef, .pointer (some ⟨p, 0, none⟩), .pointer (some ⟨p, 0, none⟩), .pointer (some ⟨p, 0, none⟩), .slice (some ⟨tb, 0, none⟩) N cap, .int .i64 (here : Int), .pointer (some ⟨tb, here, none⟩), .int .u8 ((T here).toNat : Int), .int .i64 ((T here).toNat : Int), .agg #[.int .i64 ((T here).toNat : Int), .int .i64 0, .int .i64 0], .tuple #[.agg (bL 3 KF).toArray, .bool true], .pointer (some ⟨p, 0, none⟩), .int .i64 (here : Int), .tuple #[.agg (bL 3 KF).toArray, .bool true], .agg (bL 3 KF).toArray, .bool true, .bool true, .bool false, undef, .pointer (some ⟨p, 0, none⟩), .int .i64 (here : Int), .pointer (some ⟨p, 0, none⟩), .pointer (some ⟨p, 0, none⟩), .pointer (some ⟨p, 0, none⟩), .slice (some ⟨tb, 0, none⟩) N cap, .int .i64 (N : Int), .int .i64 (here : Int), .int .i64 ((N : Int) - (here : Int)), .int .i64 (M : Int), .slice (some ⟨tb, here, none⟩) M M, .pointer (some ⟨p, 0, none⟩), .pointer (some ⟨p, 0, none⟩), .pointer (some ⟨p, 1, none⟩), .map (some mb), .agg (bL 3 KF).toArray, .slice sa n scp, .func (.func 141) #[] #[.pointer (some ⟨Z + 2, 0, none⟩)], .int .i64 (x.1.1 : Int), .int .i64 (x.1.2 : Int), undef, undef, undef, undef, undef, undef, undef, undef, undef, undef, undef, undef, undef, undef, undef, undef, undef, undef, undef, undef, undef, undef, undef, undef, undef, undef, undef, undef, undef], defers := [] }) ?assign ?body ?done ?stop
   case kb => exact KpX.of_below (belowK_b (w := W4) (n₀ := Z + 3) (by omega) W l o o' h1 h2 h3 h4)
   case hI =>
    rintro pre A C row ⟨h1, h2, h3, h4⟩ hg hr
    have hs4 := h3.size
    have hrow : ∀ g, g < Z + 3 → row ≠ some g := fun g hlt e => by have := (hr g e).1; omega
    exact ⟨(hg.block (B + 3) (by omega) (fun e => hrow (B + 3) (by omega) e.symm)).trans h1, h2, h3.trans ⟨hg.size, fun g hlt _ => hg.block g (by omega) (fun e => hrow g hlt e.symm)⟩, h4.grown hg (by have := HB.out; omega) (fun k e => by have := (hr k e).1; omega)⟩
   case hIx =>
    rintro c pre A C row ⟨h0, ini, x, h0', h1, h2, h2', h3, h4⟩ hg hr
    have hs4 := h3.size
    have hrow : ∀ g, g < Z + 3 → row ≠ some g := fun g hlt e => by have := (hr g e).1; omega
    exact ⟨h0, ini, x, h0', (hg.block (B + 3) (by omega) (fun e => hrow (B + 3) (by omega) e.symm)).trans h1, h2, h2', h3.trans ⟨hg.size, fun g hlt _ => hg.block g (by omega) (fun e => hrow g hlt e.symm)⟩, h4.grown hg (by have := HB.out; omega) (fun k e => by have := (hr k e).1; omega)⟩
   case h0 => exact ⟨u4, by simp, KpX.refl _ _ _, u1⟩
   case assign =>
    intro l x W K hK
    gi_wp2
    exact hK
   case body =>
    rintro l pre x W ⟨hb3, hfar, hkp, hbl⟩ hlen
    obtain ⟨⟨ix, pl⟩, hpl⟩ := x
    dsimp only at hpl ⊢
    obtain ⟨FB, hFB⟩ : ∃ FB, FB = foldB T N here (pre.map (fun x => x.1.2)) := ⟨_, rfl⟩
    obtain ⟨TK, hTK⟩ : ∃ TK, TK = tokB T here FB := ⟨_, rfl⟩
    rw [← hFB, ← hTK] at hb3
    obtain ⟨tkb, tkm, tkf⟩ := TK
    dsimp only at hb3
    obtain ⟨f, hf⟩ : ∃ f, f = here - pl := ⟨_, rfl⟩
    obtain ⟨mm, hmm⟩ : ∃ mm, mm = long T N here f := ⟨_, rfl⟩
    obtain ⟨sz, hsz⟩ : ∃ sz, sz = sizeB FB := ⟨_, rfl⟩
    have hszT : tokSize tkm = (sz : Int) := by
     rw [hsz]
     unfold tokB at hTK
     unfold sizeB
     split at hTK
     · rename_i h0
       rw [if_pos h0]
       simp only [Tok.mk.injEq] at hTK
       rw [hTK.2.1]; rfl
     · rename_i h0
       rw [if_neg h0]
       simp only [Tok.mk.injEq] at hTK
       rw [hTK.2.1]
       unfold tokSize
       rw [if_neg (by omega)]
    have s1 : (here : Int) - (pl : Int) = (f : Int) := by omega
    have s1w : IntKind.i64.wrap ((here : Int) - (pl : Int)) = (f : Int) := by simp only [IntKind.wrap_i64]; omega
    have hfn : (f : Int) ≤ 4000 := by omega
    have hszn : (sz : Int) ≤ 66 := by rw [hsz]; unfold sizeB; have := tokB_ok T N here (pre.map (fun x => x.1.2)); rw [← hFB] at this; split <;> omega
    have hmn : (mm : Int) ≤ 66 := by have := long_le T N here f; omega
    have c8 : W.cell? ⟨Z + 1, 0, none⟩ = some (.slice (some ⟨tb, here, none⟩) M M) := by
     have := hkp.block (Z + 1) (by omega) (by omega)
     rw [u6] at this
     simp [World.cell?, this]
    have cB : W.cell? ⟨B, 0, none⟩ = some (.pointer (some ⟨p, 0, none⟩)) := (hkp.cell (p := ⟨B, 0, none⟩) (by show B < _; omega) (by show B ≠ _; omega)).trans u7
    have cH : W.cell? ⟨B + 1, 0, none⟩ = some (.int .i64 (here : Int)) := (hkp.cell (p := ⟨B + 1, 0, none⟩) (by show B + 1 < _; omega) (by show B + 1 ≠ _; omega)).trans u8
    have SL := hide (show ∀ u : World, Pst u p tb mb N cap T → Calls Tryz.prog 115 #[.slice (some ⟨tb, here, none⟩) M M, .slice (some ⟨tb, pl, none⟩) M M] u (fun e w' => e = .returned (.int .i64 (mm : Int)) ∧ w' = u) from fun u hu => by
     have h := imp_alike tb here pl M N T u hu.row hM2 (by omega) hN
     rw [alike_long T N here pl M hpl (by omega) HMc.out, ← hf, ← hmm] at h
     exact h)
    have SS := hide (show ∀ u : World, Calls Tryz.prog 84 #[.agg #[.int .i64 tkb, .int .i64 tkm, .int .i64 tkf]] u (fun e w' => e = .returned (.int .i64 (sz : Int)) ∧ Below u.heap.size u w') from fun u => by
     have h := imp_size tkb tkm tkf u
     rw [hszT] at h
     exact h)
    have H1 := hide (And.intro hFB (And.intro hTK (And.intro hf (And.intro hmm hsz))))
    have H2 := hide (And.intro hb3 (And.intro hfar (And.intro hkp hbl)))
    have HszT := hide hszT
    have hSW : Z + 3 ≤ W.heap.size := by have := hkp.size; omega
    have HU := hide (And.intro u1 (And.intro u4 (And.intro u5 (And.intro u6 (And.intro u7 u8)))))
    have HU9 := hide u9
    clear hFB hTK hf hmm hsz hszT hb3 hfar hkp hbl u1 u4 u5 u6 u7 u8 u9
    gi_wp2
    have SR : ∀ u : World, (∀ g, g < Z + 3 → u.heap[g]? = W.heap[g]?) → u.heap.size ≥ W.heap.size → u.cell? ⟨Z + 1, 0, none⟩ = some (.slice (some ⟨tb, here, none⟩) M M) ∧ u.cell? ⟨B, 0, none⟩ = some (.pointer (some ⟨p, 0, none⟩)) ∧ u.cell? ⟨B + 3, 0, none⟩ = some (.int .i64 tkb) ∧ u.cell? ⟨B + 3, 1, none⟩ = some (.int .i64 tkm) ∧ u.cell? ⟨B + 3, 2, none⟩ = some (.int .i64 tkf) ∧ Hid (Pst u p tb mb N cap T) := fun u hu hsz => by
     have hb := (hu (B + 3) (by omega)).trans H2.out.1
     refine ⟨(World.cell?_of_block (w := W) (a := ⟨Z + 1, 0, none⟩) (hu (Z + 1) (by omega))).trans c8, (World.cell?_of_block (w := W) (a := ⟨B, 0, none⟩) (hu B (by omega))).trans cB, by simp [World.cell?, hb], by simp [World.cell?, hb], by simp [World.cell?, hb], hide ?_⟩
     have hk := H2.out.2.2.1
     exact (HU9.out.of_blocks hk.size (hk.block p (by omega) (by omega)) (hk.block tb (by omega) (by omega))).of_blocks hsz (hu p (by omega)) (hu tb (by omega))
    refine round_held (S := fun u => u.cell? ⟨Z + 1, 0, none⟩ = some (.slice (some ⟨tb, here, none⟩) M M) ∧ u.cell? ⟨B, 0, none⟩ = some (.pointer (some ⟨p, 0, none⟩)) ∧ u.cell? ⟨B + 3, 0, none⟩ = some (.int .i64 tkb) ∧ u.cell? ⟨B + 3, 1, none⟩ = some (.int .i64 tkm) ∧ u.cell? ⟨B + 3, 2, none⟩ = some (.int .i64 tkf) ∧ Hid (Pst u p tb mb N cap T)) (by kernel_rfl) (by rintro ⟨_, _, h⟩; exact h) (by kernel_rfl) (SR _ (fun _ _ => rfl) (Nat.le_refl _)) (fun hHeld => ?_)
    refine takeD (i := 0) (v := .slice (some ⟨tb, here, none⟩) M M) (some 54) rfl rfl (by kernel_rfl) (by kernel_rfl) (by kernel_rfl) (fun _ _ _ h => h) (Or.inl ⟨by rfl, fun w hSw => by obtain ⟨q1, q2, q3, q4, q5, _⟩ := hSw; go_simp⟩) hHeld ?_
    simp only [Act.put, List.setIfInBounds_toArray, List.set_cons_zero, List.set_cons_succ]
    refine takeD (i := 1) (v := .pointer (some ⟨p, 0, none⟩)) (some 55) rfl rfl (by kernel_rfl) (by kernel_rfl) (by kernel_rfl) (fun _ _ _ h => h) (Or.inl ⟨by rfl, fun w hSw => by obtain ⟨q1, q2, q3, q4, q5, _⟩ := hSw; go_simp⟩) hHeld ?_
    simp only [Act.put, List.setIfInBounds_toArray, List.set_cons_zero, List.set_cons_succ]
    refine takeD (i := 2) (v := .int .i64 (pl : Int)) (some 56) rfl rfl (by kernel_rfl) (by kernel_rfl) (by kernel_rfl) (fun _ _ _ h => h) (Or.inl ⟨by rfl, fun w hSw => by go_simp⟩) hHeld ?_
    simp only [Act.put, List.setIfInBounds_toArray, List.set_cons_zero, List.set_cons_succ]
    refine takeD (i := 3) (v := .slice (some ⟨tb, here, none⟩) M M) (some 57) rfl rfl (by kernel_rfl) (by kernel_rfl) (by kernel_rfl) (fun _ _ _ h => h) (Or.inl ⟨by rfl, fun w hSw => by obtain ⟨q1, q2, q3, q4, q5, _⟩ := hSw; go_simp⟩) hHeld ?_
    simp only [Act.put, List.setIfInBounds_toArray, List.set_cons_zero, List.set_cons_succ]
    refine takeD (i := 4) (v := .int .i64 (M : Int)) (some 58) rfl rfl (by kernel_rfl) (by kernel_rfl) (by kernel_rfl) (fun _ _ _ h => h) (Or.inl ⟨by rfl, fun w hSw => by go_simp⟩) hHeld ?_
    simp only [Act.put, List.setIfInBounds_toArray, List.set_cons_zero, List.set_cons_succ]
    refine takeC (i := 5) (v := .slice (some ⟨tb, pl, none⟩) M M) (some 59) rfl rfl (by kernel_rfl) (by kernel_rfl) (by kernel_rfl) (fun _ _ _ h => h) rfl 113 _ _ rfl (enters_of Tryz.func113 (by kernel_rfl) rfl) #[.pointer (some ⟨p, 0, none⟩), .int .i64 (pl : Int), .int .i64 (M : Int)] (by simp [Act.eval]) (fun w hSw => imp_cut p tb mb N cap pl M T w hSw.2.2.2.2.2.out hN (by omega) (by omega)) hHeld ?_
    simp only [Act.put, List.setIfInBounds_toArray, List.set_cons_zero, List.set_cons_succ]
    refine takeC (i := 6) (v := .int .i64 (mm : Int)) (some 60) rfl rfl (by kernel_rfl) (by kernel_rfl) (by kernel_rfl) (fun _ _ _ h => h) rfl 115 _ _ rfl (enters_of Tryz.func115 (by kernel_rfl) rfl) #[.slice (some ⟨tb, here, none⟩) M M, .slice (some ⟨tb, pl, none⟩) M M] (by simp [Act.eval]) (fun w hSw => SL.out w hSw.2.2.2.2.2.out) hHeld ?_
    simp only [Act.put, List.setIfInBounds_toArray, List.set_cons_zero, List.set_cons_succ]
    refine takeD (i := 7) (v := .int .i64 (mm : Int)) (some 12) rfl rfl (by kernel_rfl) (by kernel_rfl) (by kernel_rfl) (fun _ _ _ h => h) (Or.inl ⟨by rfl, fun w hSw => by go_simp⟩) hHeld ?_
    simp only [Act.put, List.setIfInBounds_toArray, List.set_cons_zero, List.set_cons_succ]
    refine wpAnyH_done (by kernel_rfl) ?_ _
    by_cases c1 : 1024 < f
    · have d1 : (1024 : Int) < (f : Int) := by omega
      gi_wp2
      refine round_held (S := fun u => u.cell? ⟨Z + 1, 0, none⟩ = some (.slice (some ⟨tb, here, none⟩) M M) ∧ u.cell? ⟨B, 0, none⟩ = some (.pointer (some ⟨p, 0, none⟩)) ∧ u.cell? ⟨B + 3, 0, none⟩ = some (.int .i64 tkb) ∧ u.cell? ⟨B + 3, 1, none⟩ = some (.int .i64 tkm) ∧ u.cell? ⟨B + 3, 2, none⟩ = some (.int .i64 tkf) ∧ Hid (Pst u p tb mb N cap T)) (by kernel_rfl) (by rintro ⟨_, _, h⟩; exact h) (by kernel_rfl) (SR _ (fun _ _ => rfl) (Nat.le_refl _)) (fun hHeld => ?_)
      refine takeD (i := 0) (v := .int .i64 (f : Int)) (some 62) rfl rfl (by kernel_rfl) (by kernel_rfl) (by kernel_rfl) (fun _ _ _ h => h) (Or.inl ⟨by rfl, fun w hSw => by go_simp⟩) hHeld ?_
      simp only [Act.put, List.setIfInBounds_toArray, List.set_cons_zero, List.set_cons_succ]
      refine takeD (i := 1) (v := .bool true) (some 63) rfl rfl (by kernel_rfl) (by kernel_rfl) (by kernel_rfl) (fun _ _ _ h => h) (Or.inl ⟨by rfl, fun w hSw => by go_simp⟩) hHeld ?_
      simp only [Act.put, List.setIfInBounds_toArray, List.set_cons_zero, List.set_cons_succ]
      refine takeD (i := 2) (v := .bool true) (some 64) rfl rfl (by kernel_rfl) (by kernel_rfl) (by kernel_rfl) (fun _ _ _ h => h) (Or.inl ⟨by rfl, fun w hSw => by go_simp⟩) hHeld ?_
      simp only [Act.put, List.setIfInBounds_toArray, List.set_cons_zero, List.set_cons_succ]
      refine takeD (i := 3) (v := undef) (some 65) rfl rfl (by kernel_rfl) (by kernel_rfl) (by kernel_rfl) (fun _ _ _ h => h) (Or.inr ⟨by kernel_rfl, rfl⟩) hHeld ?_
      simp only [Act.put, List.setIfInBounds_toArray, List.set_cons_zero, List.set_cons_succ]
      refine takeD (i := 4) (v := undef) (some 66) rfl rfl (by kernel_rfl) (by kernel_rfl) (by kernel_rfl) (fun _ _ _ h => h) (Or.inr ⟨by kernel_rfl, rfl⟩) hHeld ?_
      simp only [Act.put, List.setIfInBounds_toArray, List.set_cons_zero, List.set_cons_succ]
      refine takeD (i := 5) (v := undef) (some 67) rfl rfl (by kernel_rfl) (by kernel_rfl) (by kernel_rfl) (fun _ _ _ h => h) (Or.inr ⟨by kernel_rfl, rfl⟩) hHeld ?_
      simp only [Act.put, List.setIfInBounds_toArray, List.set_cons_zero, List.set_cons_succ]
      refine takeD (i := 6) (v := undef) (some 68) rfl rfl (by kernel_rfl) (by kernel_rfl) (by kernel_rfl) (fun _ _ _ h => h) (Or.inr ⟨by kernel_rfl, rfl⟩) hHeld ?_
      simp only [Act.put, List.setIfInBounds_toArray, List.set_cons_zero, List.set_cons_succ]
      refine takeD (i := 7) (v := undef) (some 69) rfl rfl (by kernel_rfl) (by kernel_rfl) (by kernel_rfl) (fun _ _ _ h => h) (Or.inr ⟨by kernel_rfl, rfl⟩) hHeld ?_
      simp only [Act.put, List.setIfInBounds_toArray, List.set_cons_zero, List.set_cons_succ]
      refine takeD (i := 8) (v := .bool true) (some 70) rfl rfl (by kernel_rfl) (by kernel_rfl) (by kernel_rfl) (fun _ _ _ h => h) (Or.inl ⟨by rfl, fun w hSw => by go_simp⟩) hHeld ?_
      simp only [Act.put, List.setIfInBounds_toArray, List.set_cons_zero, List.set_cons_succ]
      refine takeD (i := 9) (v := .bool true) (some 61) rfl rfl (by kernel_rfl) (by kernel_rfl) (by kernel_rfl) (fun _ _ _ h => h) (Or.inl ⟨by rfl, fun w hSw => by go_simp⟩) hHeld ?_
      simp only [Act.put, List.setIfInBounds_toArray, List.set_cons_zero, List.set_cons_succ]
      refine wpAnyH_done (by kernel_rfl) ?_ _
      gi_wp2
      obtain ⟨a1, a2, a3, a4⟩ := H2.out
      exact ⟨⟨Nat.le_refl _, fun _ _ h _ => h⟩, rfl, pre, ⟨(ix, pl), hpl⟩, rfl, by rw [← H1.out.1, ← H1.out.2.1]; exact a1, a2, .inl (by show 1024 < here - pl; rw [← H1.out.2.2.1]; exact c1), a3.trans ⟨Nat.le_refl _, fun _ _ _ => rfl⟩, a4.trans ((Below.refl _ _).drew.drew)⟩
    · have d1 : ¬ (1024 : Int) < (f : Int) := by omega
      gi_wp2
      by_cases c2 : sz = M
      · have d2 : ((sz : Int) == (M : Int)) = true := by simp [c2]
        have HC2 := hide c2
        clear c2
        refine round_held (S := fun u => u.cell? ⟨Z + 1, 0, none⟩ = some (.slice (some ⟨tb, here, none⟩) M M) ∧ u.cell? ⟨B, 0, none⟩ = some (.pointer (some ⟨p, 0, none⟩)) ∧ u.cell? ⟨B + 3, 0, none⟩ = some (.int .i64 tkb) ∧ u.cell? ⟨B + 3, 1, none⟩ = some (.int .i64 tkm) ∧ u.cell? ⟨B + 3, 2, none⟩ = some (.int .i64 tkf) ∧ Hid (Pst u p tb mb N cap T)) (by kernel_rfl) (by rintro ⟨_, _, h⟩; exact h) (by kernel_rfl) (SR _ (fun _ _ => rfl) (Nat.le_refl _)) (fun hHeld => ?_)
        refine takeD (i := 0) (v := .int .i64 (f : Int)) (some 62) rfl rfl (by kernel_rfl) (by kernel_rfl) (by kernel_rfl) (fun _ _ _ h => h) (Or.inl ⟨by rfl, fun w hSw => by go_simp⟩) hHeld ?_
        simp only [Act.put, List.setIfInBounds_toArray, List.set_cons_zero, List.set_cons_succ]
        refine takeD (i := 1) (v := .bool false) (some 63) rfl rfl (by kernel_rfl) (by kernel_rfl) (by kernel_rfl) (fun _ _ _ h => h) (Or.inl ⟨by rfl, fun w hSw => by go_simp⟩) hHeld ?_
        simp only [Act.put, List.setIfInBounds_toArray, List.set_cons_zero, List.set_cons_succ]
        refine takeD (i := 2) (v := .bool false) (some 64) rfl rfl (by kernel_rfl) (by kernel_rfl) (by kernel_rfl) (fun _ _ _ h => h) (Or.inl ⟨by rfl, fun w hSw => by go_simp⟩) hHeld ?_
        simp only [Act.put, List.setIfInBounds_toArray, List.set_cons_zero, List.set_cons_succ]
        refine takeD (i := 3) (v := .agg #[.int .i64 tkb, .int .i64 tkm, .int .i64 tkf]) (some 65) rfl rfl (by kernel_rfl) (by kernel_rfl) (by kernel_rfl) (fun _ _ _ h => h) (Or.inl ⟨by rfl, fun w hSw => by obtain ⟨q1, q2, q3, q4, q5, _⟩ := hSw; go_simp⟩) hHeld ?_
        simp only [Act.put, List.setIfInBounds_toArray, List.set_cons_zero, List.set_cons_succ]
        refine takeD (i := 5) (v := .slice (some ⟨tb, here, none⟩) M M) (some 67) rfl rfl (by kernel_rfl) (by kernel_rfl) (by kernel_rfl) (fun _ _ _ h => h) (Or.inl ⟨by rfl, fun w hSw => by obtain ⟨q1, q2, q3, q4, q5, _⟩ := hSw; go_simp⟩) hHeld ?_
        simp only [Act.put, List.setIfInBounds_toArray, List.set_cons_zero, List.set_cons_succ]
        refine takeD (i := 6) (v := .int .i64 (M : Int)) (some 68) rfl rfl (by kernel_rfl) (by kernel_rfl) (by kernel_rfl) (fun _ _ _ h => h) (Or.inl ⟨by rfl, fun w hSw => by go_simp⟩) hHeld ?_
        simp only [Act.put, List.setIfInBounds_toArray, List.set_cons_zero, List.set_cons_succ]
        refine wpAnyH_ready (rs := [4]) (by kernel_rfl) (by simp) ?_
        refine AllReadyH.cons rfl (fun KK hK => ?_) AllReadyH.nil
        go_simp
        refine (SS.out _).mono ?_
        rintro e w6 ⟨rfl, hb6⟩
        go_simp
        have hb6' : Below W.heap.size W w6 := ((Below.refl _ W).drew.drew).trans hb6
        have S6 := SR w6 (fun g hg => hb6'.block g (by omega)) hb6'.size
        refine hK.out _ _ S6 (fun hHeld => ?_)
        clear hK KK hb6
        refine takeD (i := 7) (v := .bool true) (some 69) rfl rfl (by kernel_rfl) (by kernel_rfl) (by kernel_rfl) (fun _ _ _ h => h) (Or.inl ⟨by rfl, fun w hSw => by go_simp; try simp [d2]⟩) hHeld ?_
        simp only [Act.put, List.setIfInBounds_toArray, List.set_cons_zero, List.set_cons_succ]
        refine takeD (i := 8) (v := .bool true) (some 70) rfl rfl (by kernel_rfl) (by kernel_rfl) (by kernel_rfl) (fun _ _ _ h => h) (Or.inl ⟨by rfl, fun w hSw => by go_simp⟩) hHeld ?_
        simp only [Act.put, List.setIfInBounds_toArray, List.set_cons_zero, List.set_cons_succ]
        refine takeD (i := 9) (v := .bool true) (some 61) rfl rfl (by kernel_rfl) (by kernel_rfl) (by kernel_rfl) (fun _ _ _ h => h) (Or.inl ⟨by rfl, fun w hSw => by go_simp⟩) hHeld ?_
        simp only [Act.put, List.setIfInBounds_toArray, List.set_cons_zero, List.set_cons_succ]
        refine wpAnyH_done (by kernel_rfl) ?_ _
        gi_wp2
        obtain ⟨a1, a2, a3, a4⟩ := H2.out
        exact ⟨keeps_below hb6', rfl, pre, ⟨(ix, pl), hpl⟩, rfl, by rw [← H1.out.1, ← H1.out.2.1]; exact (hb6'.block (B + 3) (by omega)).trans a1, a2, .inr (by rw [← H1.out.1, ← H1.out.2.2.2.2]; exact HC2.out), a3.trans (KpX.of_below (hb6'.mono (by omega))), a4.trans (hb6'.mono (by omega))⟩
      · have d2 : ((sz : Int) == (M : Int)) = false := by
         rw [beq_eq_false_iff_ne]; omega
        have HC2 := hide c2
        clear c2
        refine round_held (S := fun u => u.cell? ⟨Z + 1, 0, none⟩ = some (.slice (some ⟨tb, here, none⟩) M M) ∧ u.cell? ⟨B, 0, none⟩ = some (.pointer (some ⟨p, 0, none⟩)) ∧ u.cell? ⟨B + 3, 0, none⟩ = some (.int .i64 tkb) ∧ u.cell? ⟨B + 3, 1, none⟩ = some (.int .i64 tkm) ∧ u.cell? ⟨B + 3, 2, none⟩ = some (.int .i64 tkf) ∧ Hid (Pst u p tb mb N cap T)) (by kernel_rfl) (by rintro ⟨_, _, h⟩; exact h) (by kernel_rfl) (SR _ (fun _ _ => rfl) (Nat.le_refl _)) (fun hHeld => ?_)
        refine takeD (i := 0) (v := .int .i64 (f : Int)) (some 62) rfl rfl (by kernel_rfl) (by kernel_rfl) (by kernel_rfl) (fun _ _ _ h => h) (Or.inl ⟨by rfl, fun w hSw => by go_simp⟩) hHeld ?_
        simp only [Act.put, List.setIfInBounds_toArray, List.set_cons_zero, List.set_cons_succ]
        refine takeD (i := 1) (v := .bool false) (some 63) rfl rfl (by kernel_rfl) (by kernel_rfl) (by kernel_rfl) (fun _ _ _ h => h) (Or.inl ⟨by rfl, fun w hSw => by go_simp⟩) hHeld ?_
        simp only [Act.put, List.setIfInBounds_toArray, List.set_cons_zero, List.set_cons_succ]
        refine takeD (i := 2) (v := .bool false) (some 64) rfl rfl (by kernel_rfl) (by kernel_rfl) (by kernel_rfl) (fun _ _ _ h => h) (Or.inl ⟨by rfl, fun w hSw => by go_simp⟩) hHeld ?_
        simp only [Act.put, List.setIfInBounds_toArray, List.set_cons_zero, List.set_cons_succ]
        refine takeD (i := 3) (v := .agg #[.int .i64 tkb, .int .i64 tkm, .int .i64 tkf]) (some 65) rfl rfl (by kernel_rfl) (by kernel_rfl) (by kernel_rfl) (fun _ _ _ h => h) (Or.inl ⟨by rfl, fun w hSw => by obtain ⟨q1, q2, q3, q4, q5, _⟩ := hSw; go_simp⟩) hHeld ?_
        simp only [Act.put, List.setIfInBounds_toArray, List.set_cons_zero, List.set_cons_succ]
        refine takeD (i := 5) (v := .slice (some ⟨tb, here, none⟩) M M) (some 67) rfl rfl (by kernel_rfl) (by kernel_rfl) (by kernel_rfl) (fun _ _ _ h => h) (Or.inl ⟨by rfl, fun w hSw => by obtain ⟨q1, q2, q3, q4, q5, _⟩ := hSw; go_simp⟩) hHeld ?_
        simp only [Act.put, List.setIfInBounds_toArray, List.set_cons_zero, List.set_cons_succ]
        refine takeD (i := 6) (v := .int .i64 (M : Int)) (some 68) rfl rfl (by kernel_rfl) (by kernel_rfl) (by kernel_rfl) (fun _ _ _ h => h) (Or.inl ⟨by rfl, fun w hSw => by go_simp⟩) hHeld ?_
        simp only [Act.put, List.setIfInBounds_toArray, List.set_cons_zero, List.set_cons_succ]
        refine wpAnyH_ready (rs := [4]) (by kernel_rfl) (by simp) ?_
        refine AllReadyH.cons rfl (fun KK hK => ?_) AllReadyH.nil
        go_simp
        refine (SS.out _).mono ?_
        rintro e w6 ⟨rfl, hb6⟩
        go_simp
        have hb6' : Below W.heap.size W w6 := ((Below.refl _ W).drew.drew).trans hb6
        have S6 := SR w6 (fun g hg => hb6'.block g (by omega)) hb6'.size
        refine hK.out _ _ S6 (fun hHeld => ?_)
        clear hK KK hb6
        refine takeD (i := 7) (v := .bool false) (some 69) rfl rfl (by kernel_rfl) (by kernel_rfl) (by kernel_rfl) (fun _ _ _ h => h) (Or.inl ⟨by rfl, fun w hSw => by go_simp; try simp [d2]⟩) hHeld ?_
        simp only [Act.put, List.setIfInBounds_toArray, List.set_cons_zero, List.set_cons_succ]
        refine takeD (i := 8) (v := .bool false) (some 70) rfl rfl (by kernel_rfl) (by kernel_rfl) (by kernel_rfl) (fun _ _ _ h => h) (Or.inl ⟨by rfl, fun w hSw => by go_simp⟩) hHeld ?_
        simp only [Act.put, List.setIfInBounds_toArray, List.set_cons_zero, List.set_cons_succ]
        refine takeD (i := 9) (v := .bool false) (some 61) rfl rfl (by kernel_rfl) (by kernel_rfl) (by kernel_rfl) (fun _ _ _ h => h) (Or.inl ⟨by rfl, fun w hSw => by go_simp⟩) hHeld ?_
        simp only [Act.put, List.setIfInBounds_toArray, List.set_cons_zero, List.set_cons_succ]
        refine wpAnyH_done (by kernel_rfl) ?_ _
        obtain ⟨_, _, k0, k1, k2, _⟩ := S6
        by_cases c3 : sz < mm
        · have d3 : (sz : Int) < (mm : Int) := by omega
          gi_wp2_with (refine ⟨trivial, ?_⟩; gi_at_call 84; refine (CallsIn.inRound l (callsIn_wide.2 (SS.out _))).mono ?_; rintro e w7 ⟨rfl, hb7⟩; have hb7' : Below W.heap.size W w7 := hb6'.trans (hb7.mono hb6'.size); have q7 : w7.heap[B + 3]? = some (.cells #[.int .i64 tkb, .int .i64 tkm, .int .i64 tkf] 80) := (hb7'.block (B + 3) (by omega)).trans H2.out.1; have k0' : w7.cell? ⟨B + 3, 0, none⟩ = some (.int .i64 tkb) := (by simp [World.cell?, q7]); have k1' : w7.cell? ⟨B + 3, 1, none⟩ = some (.int .i64 tkm) := (by simp [World.cell?, q7]); have k2' : w7.cell? ⟨B + 3, 2, none⟩ = some (.int .i64 tkf) := (by simp [World.cell?, q7]); have z0' : w7.frozen? ⟨B + 3, 0, none⟩ = false := (by simp [World.frozen?, q7]); have z1' : w7.frozen? ⟨B + 3, 1, none⟩ = false := (by simp [World.frozen?, q7]); have z2' : w7.frozen? ⟨B + 3, 2, none⟩ = false := (by simp [World.frozen?, q7]); have HQ7 := hide q7; clear q7 hb7)
          obtain ⟨a1, a2, a3, a4⟩ := H2.out
          have hfo : foldB T N here ((pre ++ [(⟨(ix, pl), hpl⟩ : α)]).map (fun x => x.1.2)) = (mm, f) := by
           rw [List.map_append]
           refine (foldB_snoc T N here _ pl).trans ?_
           obtain ⟨e1, e2, e3, e4, e5⟩ := H1.out
           rw [← e1]
           unfold stepB
           rw [← e3, ← e4, ← e5, if_pos c3]
          have hto : tokB T here (mm, f) = ⟨0, (mm : Int), (f : Int)⟩ := if_neg (show ¬ mm = 0 by omega)
          have kx := keeps_below hb7'
          refine ⟨kx.trans (((KeepsOthers.setCell _ _ _).trans (KeepsOthers.setCell _ _ _)).trans (KeepsOthers.setCell _ _ _)), ⟨by rw [set3_size]; exact hb7'.size, fun g h1 h2 => (set3_other _ _ _ _ _ _ h2).trans (hb7'.block g (by omega))⟩, ?_, ?_, a3.trans ⟨by rw [set3_size]; exact hb7'.size, fun g h1 h2 => (set3_other _ _ _ _ _ _ h2).trans (hb7'.block g (by omega))⟩, below_set3 (a4.trans (hb7'.mono (by omega))) (B + 3) (by omega) _ _ _⟩
          · rw [hfo, hto]
            exact set3_block w7 (B + 3) _ _ _ _ _ _ _ HQ7.out
          · intro y hy
            rcases List.mem_append.1 hy with hy | hy
            · exact a2 y hy
            · rw [List.mem_singleton.1 hy]
              show here - pl ≤ 1024
              rw [← H1.out.2.2.1]; omega
        · have d3 : ¬ (sz : Int) < (mm : Int) := by omega
          gi_wp2_with (refine ⟨trivial, ?_⟩; gi_at_call 84; refine (CallsIn.inRound l (callsIn_wide.2 (SS.out _))).mono ?_; rintro e w7 ⟨rfl, hb7⟩; have hb7' : Below W.heap.size W w7 := hb6'.trans (hb7.mono hb6'.size); have q7 : w7.heap[B + 3]? = some (.cells #[.int .i64 tkb, .int .i64 tkm, .int .i64 tkf] 80) := (hb7'.block (B + 3) (by omega)).trans H2.out.1; have k0' : w7.cell? ⟨B + 3, 0, none⟩ = some (.int .i64 tkb) := (by simp [World.cell?, q7]); have k1' : w7.cell? ⟨B + 3, 1, none⟩ = some (.int .i64 tkm) := (by simp [World.cell?, q7]); have k2' : w7.cell? ⟨B + 3, 2, none⟩ = some (.int .i64 tkf) := (by simp [World.cell?, q7]); have z0' : w7.frozen? ⟨B + 3, 0, none⟩ = false := (by simp [World.frozen?, q7]); have z1' : w7.frozen? ⟨B + 3, 1, none⟩ = false := (by simp [World.frozen?, q7]); have z2' : w7.frozen? ⟨B + 3, 2, none⟩ = false := (by simp [World.frozen?, q7]); have HQ7 := hide q7; clear q7 hb7)
          obtain ⟨a1, a2, a3, a4⟩ := H2.out
          have hfo : foldB T N here ((pre ++ [(⟨(ix, pl), hpl⟩ : α)]).map (fun x => x.1.2)) = FB := by
           rw [List.map_append]
           refine (foldB_snoc T N here _ pl).trans ?_
           obtain ⟨e1, e2, e3, e4, e5⟩ := H1.out
           rw [← e1]
           unfold stepB
           rw [← e3, ← e4, ← e5, if_neg c3]
          refine ⟨keeps_below hb7', KpX.of_below (hb7'.mono (by omega)), ?_, ?_, a3.trans (KpX.of_below (hb7'.mono (by omega))), a4.trans (hb7'.mono (by omega))⟩
          · rw [hfo, ← H1.out.2.1]
            exact HQ7.out
          · intro y hy
            rcases List.mem_append.1 hy with hy | hy
            · exact a2 y hy
            · rw [List.mem_singleton.1 hy]
              show here - pl ≤ 1024
              rw [← H1.out.2.2.1]; omega
   case done =>
    rintro D ys W hD rfl ⟨hb3, hfar, hkp, hbl⟩ hK
    have hmem : ∀ q, q ∈ PL.reverse ↔ q < here ∧ 3 ≤ long T N here (here - q) := fun q => by
     rw [List.mem_reverse, HPL.out, HKF.out]; exact mem_plc T N here q hk3
    have hdesc : PL.reverse.Pairwise (fun a b => b < a) := by rw [HPL.out]; exact plc_desc T N here (kV KF)
    have hfinal : tokB T here (foldB T N here (ys.map (fun x => x.1.2))) = tokAt T N here := by
     refine best_final T N here M hk3 HMc.out (ys.map (fun x => x.1.2)) [] ?_ ?_ ?_ ?_
     · intro q; rw [List.append_nil, HLp.out]; exact hmem q
     · rw [List.append_nil, HLp.out]; exact hdesc
     · intro q hq
       obtain ⟨x, hx, rfl⟩ := List.mem_map.1 hq
       exact hfar x hx
     · intro q hq; cases hq
    clear hmem hdesc hfar
    have q5 : W.heap[B + 1 + 1]? = some (.cells #[.int .i64 0, .int .i64 0, .int .i64 0] 80) := (hkp.block (B + 2) (by omega) (by omega)).trans u5
    obtain ⟨TK, hTK⟩ : ∃ TK, TK = tokAt T N here := ⟨_, rfl⟩
    rw [hfinal, ← hTK] at hb3
    obtain ⟨tkb, tkm, tkf⟩ := TK
    dsimp only at hb3
    have HTK := hide hTK
    clear hTK hfinal
    have k0 : W.cell? ⟨B + 3, 0, none⟩ = some (.int .i64 tkb) := by simp [World.cell?, hb3]
    have k1 : W.cell? ⟨B + 3, 1, none⟩ = some (.int .i64 tkm) := by simp [World.cell?, hb3]
    have k2 : W.cell? ⟨B + 3, 2, none⟩ = some (.int .i64 tkf) := by simp [World.cell?, hb3]
    have l0 : W.cell? ⟨B + 1 + 1, 0, none⟩ = some (.int .i64 0) := by simp [World.cell?, q5]
    have l1 : W.cell? ⟨B + 1 + 1, 1, none⟩ = some (.int .i64 0) := by simp [World.cell?, q5]
    have l2 : W.cell? ⟨B + 1 + 1, 2, none⟩ = some (.int .i64 0) := by simp [World.cell?, q5]
    have z0 : W.frozen? ⟨B + 1 + 1, 0, none⟩ = false := by simp [World.frozen?, q5]
    have z1 : W.frozen? ⟨B + 1 + 1, 1, none⟩ = false := by simp [World.frozen?, q5]
    have z2 : W.frozen? ⟨B + 1 + 1, 2, none⟩ = false := by simp [World.frozen?, q5]
    have HR5 := hide q5
    have HR6 := hide (And.intro hb3 (And.intro hkp (And.intro hbl hK)))
    clear hb3 hkp hbl q5 hK
    go_wp2_with fail
    obtain ⟨hb3, hkp, hbl, hK⟩ := HR6.out
    have hfin := set3_block W (B + 1 + 1) _ _ _ (.int .i64 tkb) (.int .i64 tkm) (.int .i64 tkf) _ HR5.out
    have hbl2 := below_set3 hbl (B + 1 + 1) (by omega) (.int .i64 tkb) (.int .i64 tkm) (.int .i64 tkf)
    have hK2 := (((KeepsOthers.setCell W ⟨B + 1 + 1, 0, none⟩ (.int .i64 tkb)).trans (KeepsOthers.setCell _ ⟨B + 1 + 1, 1, none⟩ (.int .i64 tkm))).trans (KeepsOthers.setCell _ ⟨B + 1 + 1, 2, none⟩ (.int .i64 tkf))).same D _ hK rfl
    generalize (((W.setCell ⟨B + 1 + 1, 0, none⟩ (.int .i64 tkb)).setCell ⟨B + 1 + 1, 1, none⟩ (.int .i64 tkm)).setCell ⟨B + 1 + 1, 2, none⟩ (.int .i64 tkf)) = W7 at *
    refine ⟨by simp, .inl ⟨D, _, rfl, run_takeDeferred hK2, ?_⟩⟩
    have hbp := belowK_b (w := W4) (n₀ := Z + 3) (by omega) W7 D _ (.deferred none) (by omega) hK2 rfl rfl
    have hfin2 := (hbp.block (B + 1 + 1) (by omega)).trans hfin
    have hbl3 := hbl2.trans (hbp.mono (by omega))
    generalize W7.putObj D (.deferred none) = W8 at *
    have m0 : W8.cell? ⟨B + 1 + 1, 0, none⟩ = some (.int .i64 tkb) := by simp [World.cell?, hfin2]
    have m1 : W8.cell? ⟨B + 1 + 1, 1, none⟩ = some (.int .i64 tkm) := by simp [World.cell?, hfin2]
    have m2 : W8.cell? ⟨B + 1 + 1, 2, none⟩ = some (.int .i64 tkf) := by simp [World.cell?, hfin2]
    refine ⟨.agg #[.int .i64 tkb, .int .i64 tkm, .int .i64 tkf], ?_, ?_, ?_⟩
    · simp [results, Tryz.results82, go_sem, m0, m1, m2]
    · rw [← HTK.out]
    · rw [← HB.out]; exact hbl3
   case stop =>
    rintro D c pre W hD hpre ⟨rfl, ini, x, rfl, hb3, hfar, hor, hkp, hbl⟩ hK
    have hmem : ∀ q, q ∈ PL.reverse ↔ q < here ∧ 3 ≤ long T N here (here - q) := fun q => by
     rw [List.mem_reverse, HPL.out, HKF.out]; exact mem_plc T N here q hk3
    have hdesc : PL.reverse.Pairwise (fun a b => b < a) := by rw [HPL.out]; exact plc_desc T N here (kV KF)
    obtain ⟨rest, hrest⟩ := hpre
    have hLd : ini.map (fun x => x.1.2) ++ (x.1.2 :: rest.map (fun x => x.1.2)) = PL.reverse := by
     rw [← HLp.out, ← hrest]; simp
    have hfinal : tokB T here (foldB T N here (ini.map (fun x => x.1.2))) = tokAt T N here := by
     refine best_final T N here M hk3 HMc.out (ini.map (fun x => x.1.2)) (x.1.2 :: rest.map (fun x => x.1.2)) ?_ ?_ ?_ ?_
     · intro q; rw [hLd]; exact hmem q
     · rw [hLd]; exact hdesc
     · intro q hq
       obtain ⟨y, hy, rfl⟩ := List.mem_map.1 hq
       exact hfar y hy
     · intro q hq
       rcases hor with h | h
       · left
         rcases List.mem_cons.1 hq with hq | hq
         · rw [hq]; exact h
         · have h2 := (List.pairwise_append.1 (by rw [← hLd] at hdesc; exact hdesc)).2.1
           have := (List.pairwise_cons.1 h2).1 q hq
           omega
       · exact .inr h
    clear hmem hdesc hfar hor hLd hrest
    have q5 : W.heap[B + 1 + 1]? = some (.cells #[.int .i64 0, .int .i64 0, .int .i64 0] 80) := (hkp.block (B + 2) (by omega) (by omega)).trans u5
    obtain ⟨TK, hTK⟩ : ∃ TK, TK = tokAt T N here := ⟨_, rfl⟩
    rw [hfinal, ← hTK] at hb3
    obtain ⟨tkb, tkm, tkf⟩ := TK
    dsimp only at hb3
    have HTK := hide hTK
    clear hTK hfinal
    have k0 : W.cell? ⟨B + 3, 0, none⟩ = some (.int .i64 tkb) := by simp [World.cell?, hb3]
    have k1 : W.cell? ⟨B + 3, 1, none⟩ = some (.int .i64 tkm) := by simp [World.cell?, hb3]
    have k2 : W.cell? ⟨B + 3, 2, none⟩ = some (.int .i64 tkf) := by simp [World.cell?, hb3]
    have l0 : W.cell? ⟨B + 1 + 1, 0, none⟩ = some (.int .i64 0) := by simp [World.cell?, q5]
    have l1 : W.cell? ⟨B + 1 + 1, 1, none⟩ = some (.int .i64 0) := by simp [World.cell?, q5]
    have l2 : W.cell? ⟨B + 1 + 1, 2, none⟩ = some (.int .i64 0) := by simp [World.cell?, q5]
    have z0 : W.frozen? ⟨B + 1 + 1, 0, none⟩ = false := by simp [World.frozen?, q5]
    have z1 : W.frozen? ⟨B + 1 + 1, 1, none⟩ = false := by simp [World.frozen?, q5]
    have z2 : W.frozen? ⟨B + 1 + 1, 2, none⟩ = false := by simp [World.frozen?, q5]
    have HR5 := hide q5
    have HR6 := hide (And.intro hb3 (And.intro hkp (And.intro hbl hK)))
    clear hb3 hkp hbl q5 hK
    gi_wp2
    go_wp2_with fail
    obtain ⟨hb3, hkp, hbl, hK⟩ := HR6.out
    have hfin := set3_block W (B + 1 + 1) _ _ _ (.int .i64 tkb) (.int .i64 tkm) (.int .i64 tkf) _ HR5.out
    have hbl2 := below_set3 hbl (B + 1 + 1) (by omega) (.int .i64 tkb) (.int .i64 tkm) (.int .i64 tkf)
    have hK2 := (((KeepsOthers.setCell W ⟨B + 1 + 1, 0, none⟩ (.int .i64 tkb)).trans (KeepsOthers.setCell _ ⟨B + 1 + 1, 1, none⟩ (.int .i64 tkm))).trans (KeepsOthers.setCell _ ⟨B + 1 + 1, 2, none⟩ (.int .i64 tkf))).same D _ hK rfl
    generalize (((W.setCell ⟨B + 1 + 1, 0, none⟩ (.int .i64 tkb)).setCell ⟨B + 1 + 1, 1, none⟩ (.int .i64 tkm)).setCell ⟨B + 1 + 1, 2, none⟩ (.int .i64 tkf)) = W7 at *
    refine ⟨by simp, .inl ⟨D, _, rfl, run_takeDeferred hK2, ?_⟩⟩
    have hbp := belowK_b (w := W4) (n₀ := Z + 3) (by omega) W7 D _ (.deferred none) (by omega) hK2 rfl rfl
    have hfin2 := (hbp.block (B + 1 + 1) (by omega)).trans hfin
    have hbl3 := hbl2.trans (hbp.mono (by omega))
    generalize W7.putObj D (.deferred none) = W8 at *
    have m0 : W8.cell? ⟨B + 1 + 1, 0, none⟩ = some (.int .i64 tkb) := by simp [World.cell?, hfin2]
    have m1 : W8.cell? ⟨B + 1 + 1, 1, none⟩ = some (.int .i64 tkm) := by simp [World.cell?, hfin2]
    have m2 : W8.cell? ⟨B + 1 + 1, 2, none⟩ = some (.int .i64 tkf) := by simp [World.cell?, hfin2]
    refine ⟨.agg #[.int .i64 tkb, .int .i64 tkm, .int .i64 tkf], ?_, ?_, ?_⟩
    · simp [results, Tryz.results82, go_sem, m0, m1, m2]
    · rw [← HTK.out]
    · rw [← HB.out]; exact hbl3
end Go.Proofs.YtconcnndghmdfaaGreatDoor
