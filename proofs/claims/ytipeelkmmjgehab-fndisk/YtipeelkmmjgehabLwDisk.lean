/- The walks over the laws' helpers on disks: toDisk, szDisk, eqDisk, markDisk, heldDisk, eqDiskOut, markDiskOut, heldDiskOut. -/
import Derived.Test.YtipeelkmmjgehabLwStr
import Derived.Test.YtipeelkmmjgehabLwWr2
namespace Go.Proofs.Ytipeelkmmjgehab
open Go Go.RowKit
/-- The cells of writes, one behind the other. -/
def wF (A : Nat → Int) (X : Nat → ByteArray) (x : Nat) : Value := cWr A X (x / 2) (x % 2)
/-- A disk in memory, below B. -/
def dskI (w : World) (B : Nat) (v : Value) (nS : Nat) (S : Nat → ByteArray) (nC : Nat) (A : Nat → Int) (X : Nat → ByteArray) : Prop :=
  ∃ sv cv, v = .agg #[sv, cv] ∧ strI w B sv nS S ∧ sliI 2 w B cv nC (cWr A X)
theorem dskI.below {w w' : World} {B : Nat} {v : Value} {nS : Nat} {S : Nat → ByteArray} {nC : Nat} {A : Nat → Int} {X : Nat → ByteArray} (h : dskI w B v nS S nC A X) (hb : Below B w w') : dskI w' B v nS S nC A X := by
  obtain ⟨sv, cv, rfl, h1, h2⟩ := h
  exact ⟨sv, cv, rfl, h1.below hb, h2.below hb⟩
theorem dskI.wide {w : World} {B C : Nat} {v : Value} {nS : Nat} {S : Nat → ByteArray} {nC : Nat} {A : Nat → Int} {X : Nat → ByteArray} (h : dskI w B v nS S nC A X) (hb : B ≤ C) : dskI w C v nS S nC A X := by
  obtain ⟨sv, cv, rfl, h1, h2⟩ := h
  exact ⟨sv, cv, rfl, h1.wide hb, h2.wide hb⟩
/-- A disk whose two lists may be written: they lie from lo on, ahead of hi, apart. -/
def dskV (w : World) (v : Value) (lo hi : Nat) (nS : Nat) (fS : Nat → Value) (nC : Nat) (fC : Nat → Value) : Prop :=
  ∃ sv cv, v = .agg #[sv, cv] ∧ valM 1 w sv nS fS ∧ valM 2 w cv nC fC ∧ within sv lo hi ∧ within cv lo hi ∧ ∀ k, sv.ownBlock = some k → cv.ownBlock ≠ some k
theorem dskV.below {w w' : World} {v : Value} {lo hi nS : Nat} {fS : Nat → Value} {nC : Nat} {fC : Nat → Value} (h : dskV w v lo hi nS fS nC fC) (hb : Below w.heap.size w w') : dskV w' v lo hi nS fS nC fC := by
  obtain ⟨sv, cv, rfl, h1, h2, h3⟩ := h
  exact ⟨sv, cv, rfl, h1.below hb, h2.below hb, h3⟩
theorem dskV.sli {w : World} {v : Value} {lo hi nS : Nat} {S : Nat → ByteArray} {nC : Nat} {A : Nat → Int} {X : Nat → ByteArray} (h : dskV w v lo hi nS (sC S) nC (wF A X)) : dskI w w.heap.size v nS S nC A X := by
  obtain ⟨sv, cv, rfl, h1, h2, _⟩ := h
  exact ⟨sv, cv, rfl, h1.strI, h2.sli.congr (fun j _ i hi => by show cWr A X ((2 * j + i) / 2) ((2 * j + i) % 2) = _; rw [show (2 * j + i) / 2 = j by omega, show (2 * j + i) % 2 = i by omega])⟩
theorem valM_slice {m : Nat} {w : World} {v : Value} {n : Nat} {f : Nat → Value} (h : valM m w v n f) : ∃ a c, v = .slice a n c := by
  obtain ⟨a, c, e, _⟩ := h
  exact ⟨a, c, e⟩
theorem grown_set1 (w : World) (g k : Nat) (u : Value) : w.grownBy (w.setCell ⟨g, k, none⟩ u) (some g) := grownBy_set ⟨rfl, rfl, rfl, Nat.le_refl _, fun _ _ _ => rfl⟩ _
theorem valM.set1 {m : Nat} {w : World} {v : Value} {n : Nat} {f : Nat → Value} (h : valM m w v n f) (g k : Nat) (u : Value) (hne : ∀ k, v.ownBlock = some k → k ≠ g) : valM m (w.setCell ⟨g, k, none⟩ u) v n f := h.kept (grown_set1 w g k u) (fun k hk e => hne k hk (by cases e; rfl))
theorem set1_o (w : World) (g k j : Nat) (v : Value) (h : j ≠ g) : (w.setCell ⟨g, k, none⟩ v).heap[j]? = w.heap[j]? := by
  simp [World.setCell, Array.getElem?_modify, Ne.symm h]
set_option maxRecDepth 100000 in
set_option maxHeartbeats 800000 in
theorem law_toDisk (v : Value) (nS : Nat) (S : Nat → ByteArray) (nC : Nat) (A : Nat → Int) (X : Nat → ByteArray) (w : World) (hS : nS ≤ 1048576) (hC : nC ≤ 1048576) (h : dskI w w.heap.size v nS S nC A X) :
    Calls Try.prog 20 #[v] w fun e w' => ∃ o, e = .returned o ∧ dskV w' o w.heap.size w'.heap.size nS (sC S) nC (wF A X) ∧ Below w.heap.size w w' := by
  obtain ⟨sv, cv, rfl, h1, h2⟩ := h
  have H1 := hide h1
  have H2 := hide h2
  clear h1 h2
  go_enter Try.func20, Try.ntmps20
  go_wp2_with fail
  have q0 : Below w.heap.size w (((w.alloc (.cells #[sv, cv] 41)).alloc (.cells #[.slice none 0 0, .slice none 0 0] 26)).alloc (.cells #[.slice none 0 0, .slice none 0 0] 26)) := (((Below.refl _ w).alloc (Nat.le_refl _) _).alloc (by simp) _).alloc (by simp; omega) _
  have qs : (((w.alloc (.cells #[sv, cv] 41)).alloc (.cells #[.slice none 0 0, .slice none 0 0] 26)).alloc (.cells #[.slice none 0 0, .slice none 0 0] 26)).heap.size = w.heap.size + 3 := by simp
  have q1 : (((w.alloc (.cells #[sv, cv] 41)).alloc (.cells #[.slice none 0 0, .slice none 0 0] 26)).alloc (.cells #[.slice none 0 0, .slice none 0 0] 26)).heap[w.heap.size]? = some (.cells #[sv, cv] 41) := ((Below.heap_alloc _ _ _ (by simp; omega)).trans (Below.heap_alloc _ _ _ (by simp))).trans (heap_alloc_new _ _)
  have q2 : (((w.alloc (.cells #[sv, cv] 41)).alloc (.cells #[.slice none 0 0, .slice none 0 0] 26)).alloc (.cells #[.slice none 0 0, .slice none 0 0] 26)).heap[w.heap.size + 1]? = some (.cells #[.slice none 0 0, .slice none 0 0] 26) := (Below.heap_alloc _ _ _ (by simp)).trans (by have := heap_alloc_new (w.alloc (.cells #[sv, cv] 41)) (.cells #[.slice none 0 0, .slice none 0 0] 26); rwa [World.size_alloc] at this)
  have q3 : (((w.alloc (.cells #[sv, cv] 41)).alloc (.cells #[.slice none 0 0, .slice none 0 0] 26)).alloc (.cells #[.slice none 0 0, .slice none 0 0] 26)).heap[w.heap.size + 1 + 1]? = some (.cells #[.slice none 0 0, .slice none 0 0] 26) := by have := heap_alloc_new ((w.alloc (.cells #[sv, cv] 41)).alloc (.cells #[.slice none 0 0, .slice none 0 0] 26)) (.cells #[.slice none 0 0, .slice none 0 0] 26); rwa [World.size_alloc, World.size_alloc] at this
  generalize (((w.alloc (.cells #[sv, cv] 41)).alloc (.cells #[.slice none 0 0, .slice none 0 0] 26)).alloc (.cells #[.slice none 0 0, .slice none 0 0] 26)) = W3 at *
  refine (law_toStrS sv nS S W3 hS ((H1.out.below q0).wide (by omega))).mono ?_
  rintro e w4 ⟨o1, rfl, hv1, hw1, hb1⟩
  obtain ⟨a1, k1, e1⟩ := valM_slice hv1
  subst e1
  have r1 := (hb1.block w.heap.size (by omega)).trans q1
  have r2 := (hb1.block (w.heap.size + 1) (by omega)).trans q2
  have r3 := (hb1.block (w.heap.size + 1 + 1) (by omega)).trans q3
  have c1 : w4.cell? ⟨w.heap.size, 1, none⟩ = some cv := by simp [World.cell?, r1]
  have c30 : w4.cell? ⟨w.heap.size + 1 + 1, 0, none⟩ = some (.slice none 0 0) := by simp [World.cell?, r3]
  have z30 : w4.frozen? ⟨w.heap.size + 1 + 1, 0, none⟩ = false := by simp [World.frozen?, r3]
  have hb2 : Below w.heap.size w w4 := q0.trans (hb1.mono (by omega))
  have hs4 := hb1.size
  have V1 := hide hv1
  have I1 := hide hw1
  have HR := hide (And.intro r2 r3)
  have HB2 := hide hb2
  clear hv1 hw1 r1 r2 r3 q1 q2 q3 q0 hb1 hb2
  go_wp2_with fail
  have hb5 : Below w.heap.size w (w4.setCell ⟨w.heap.size + 1 + 1, 0, none⟩ (.slice a1 nS k1)) := below_set HB2.out _ 0 (by omega) (.slice a1 nS k1)
  have hs5 : (w4.setCell ⟨w.heap.size + 1 + 1, 0, none⟩ (.slice a1 nS k1)).heap.size = w4.heap.size := by simp [World.setCell]
  have r2 : (w4.setCell ⟨w.heap.size + 1 + 1, 0, none⟩ (.slice a1 nS k1)).heap[w.heap.size + 1]? = some (.cells #[.slice none 0 0, .slice none 0 0] 26) := (set1_o _ _ _ _ _ (by omega)).trans HR.out.1
  have r3 : (w4.setCell ⟨w.heap.size + 1 + 1, 0, none⟩ (.slice a1 nS k1)).heap[w.heap.size + 1 + 1]? = some (.cells #[.slice a1 nS k1, .slice none 0 0] 26) := by simp [World.setCell, Array.getElem?_modify, HR.out.2]
  have V5 := hide (show valM 1 (w4.setCell ⟨w.heap.size + 1 + 1, 0, none⟩ (.slice a1 nS k1)) (.slice a1 nS k1) nS (sC S) from V1.out.kept (grown_set1 _ _ _ _) (fun k hk e => by have := I1.out k hk; cases e; omega))
  generalize (w4.setCell ⟨w.heap.size + 1 + 1, 0, none⟩ (.slice a1 nS k1)) = w5 at *
  clear V1 HR HB2 c1 c30 z30
  refine (law_toWrS cv nC A X w5 hC ((H2.out.below hb5).wide (by omega))).mono ?_
  rintro e w6 ⟨o2, rfl, hv2, hw2, hb6⟩
  obtain ⟨a2, k2, e2⟩ := valM_slice hv2
  subst e2
  have t2 := (hb6.block (w.heap.size + 1) (by omega)).trans r2
  have t3 := (hb6.block (w.heap.size + 1 + 1) (by omega)).trans r3
  have c30 : w6.cell? ⟨w.heap.size + 1 + 1, 0, none⟩ = some (.slice a1 nS k1) := by simp [World.cell?, t3]
  have c31 : w6.cell? ⟨w.heap.size + 1 + 1, 1, none⟩ = some (.slice none 0 0) := by simp [World.cell?, t3]
  have z31 : w6.frozen? ⟨w.heap.size + 1 + 1, 1, none⟩ = false := by simp [World.frozen?, t3]
  have c20 : w6.cell? ⟨w.heap.size + 1, 0, none⟩ = some (.slice none 0 0) := by simp [World.cell?, t2]
  have c21 : w6.cell? ⟨w.heap.size + 1, 1, none⟩ = some (.slice none 0 0) := by simp [World.cell?, t2]
  have z20 : w6.frozen? ⟨w.heap.size + 1, 0, none⟩ = false := by simp [World.frozen?, t2]
  have z21 : w6.frozen? ⟨w.heap.size + 1, 1, none⟩ = false := by simp [World.frozen?, t2]
  have V6 := hide (V5.out.below hb6)
  have W6 := hide hv2
  have I2 := hide hw2
  have HT := hide (And.intro t2 t3)
  have HB6 := hide (hb5.trans (hb6.mono (by omega)))
  have hs6 := hb6.size
  clear hv2 hw2 t2 t3 r2 r3 hb5 hb6 V5
  go_wp2_with fail
  have u1 : (((w6.setCell ⟨w.heap.size + 1 + 1, 1, none⟩ (.slice a2 nC k2)).setCell ⟨w.heap.size + 1, 0, none⟩ (.slice a1 nS k1)).setCell ⟨w.heap.size + 1, 1, none⟩ (.slice a2 nC k2)).heap[w.heap.size + 1]? = some (.cells #[.slice a1 nS k1, .slice a2 nC k2] 26) := by
    have e : (w6.setCell ⟨w.heap.size + 1 + 1, 1, none⟩ (.slice a2 nC k2)).heap[w.heap.size + 1]? = some (.cells #[.slice none 0 0, .slice none 0 0] 26) := (set1_o _ _ _ _ _ (by omega)).trans HT.out.1
    rw [World.setCell, World.setCell]
    simp [Array.getElem?_modify, e]
  have u2 : (((w6.setCell ⟨w.heap.size + 1 + 1, 1, none⟩ (.slice a2 nC k2)).setCell ⟨w.heap.size + 1, 0, none⟩ (.slice a1 nS k1)).setCell ⟨w.heap.size + 1, 1, none⟩ (.slice a2 nC k2)).heap.size = w6.heap.size := by simp [World.setCell]
  have u3 : Below w.heap.size w (((w6.setCell ⟨w.heap.size + 1 + 1, 1, none⟩ (.slice a2 nC k2)).setCell ⟨w.heap.size + 1, 0, none⟩ (.slice a1 nS k1)).setCell ⟨w.heap.size + 1, 1, none⟩ (.slice a2 nC k2)) := below_set (below_set (below_set HB6.out _ 1 (by omega) _) _ 0 (by omega) _) _ 1 (by omega) _
  have n1 : ∀ k, (Value.slice a1 nS k1).ownBlock = some k → k ≠ w.heap.size + 1 ∧ k ≠ w.heap.size + 1 + 1 := fun k hk => by have := I1.out k hk; omega
  have n2 : ∀ k, (Value.slice a2 nC k2).ownBlock = some k → k ≠ w.heap.size + 1 ∧ k ≠ w.heap.size + 1 + 1 := fun k hk => by have := I2.out k hk; omega
  have u4 : valM 1 (((w6.setCell ⟨w.heap.size + 1 + 1, 1, none⟩ (.slice a2 nC k2)).setCell ⟨w.heap.size + 1, 0, none⟩ (.slice a1 nS k1)).setCell ⟨w.heap.size + 1, 1, none⟩ (.slice a2 nC k2)) (.slice a1 nS k1) nS (sC S) := ((V6.out.set1 _ _ _ (fun k hk => (n1 k hk).2)).set1 _ _ _ (fun k hk => (n1 k hk).1)).set1 _ _ _ (fun k hk => (n1 k hk).1)
  have u5 : valM 2 (((w6.setCell ⟨w.heap.size + 1 + 1, 1, none⟩ (.slice a2 nC k2)).setCell ⟨w.heap.size + 1, 0, none⟩ (.slice a1 nS k1)).setCell ⟨w.heap.size + 1, 1, none⟩ (.slice a2 nC k2)) (.slice a2 nC k2) nC (wF A X) := ((W6.out.set1 _ _ _ (fun k hk => (n2 k hk).2)).set1 _ _ _ (fun k hk => (n2 k hk).1)).set1 _ _ _ (fun k hk => (n2 k hk).1)
  generalize (((w6.setCell ⟨w.heap.size + 1 + 1, 1, none⟩ (.slice a2 nC k2)).setCell ⟨w.heap.size + 1, 0, none⟩ (.slice a1 nS k1)).setCell ⟨w.heap.size + 1, 1, none⟩ (.slice a2 nC k2)) = w7 at *
  exact bodyPost_ret (results_cell_row Try.results20 _ _ (w.heap.size + 1) 26 #[.slice a1 nS k1, .slice a2 nC k2] (0, 0) _ rfl u1 Try.underlying26 rfl (by kernel_rfl)) rfl
    ⟨_, rfl, ⟨_, _, rfl, u4, u5, fun k hk => by have := I1.out k hk; omega, fun k hk => by have := I2.out k hk; omega, fun k hk e => by have := I1.out k hk; have := I2.out k e; omega⟩, u3⟩
set_option maxRecDepth 100000 in
set_option maxHeartbeats 800000 in
theorem law_szDisk (v : Value) (nS : Nat) (S : Nat → ByteArray) (nC : Nat) (A : Nat → Int) (X : Nat → ByteArray) (w : World) (hS : nS ≤ 9223372036854775807) (hC : nC ≤ 9223372036854775807) (hs : ∀ j, j < nS → (S j).size ≤ 9223372036854775807) (hx : ∀ j, j < nC → (X j).size ≤ 9223372036854775807) (L : Int) (h0 : 0 ≤ L) (hL : L ≤ 1048576) (h : dskI w w.heap.size v nS S nC A X) :
    Calls Try.prog 18 #[v, .int .i64 L] w fun e w' => ∃ r : Int, e = .returned (.int .i64 r) ∧ (r = -1 ∨ (0 ≤ r ∧ r ≤ L - (nS : Int) - (nC : Int) ∧ (∀ j, j < nS → (S j).size ≤ 1048576) ∧ ∀ j, j < nC → (X j).size ≤ 1048576)) ∧ Below w.heap.size w w' := by
  obtain ⟨sv, cv, rfl, h1, h2⟩ := h
  have H1 := hide h1
  have H2 := hide h2
  have HS := hide hs
  have HX := hide hx
  clear h1 h2 hs hx
  go_enter Try.func18, Try.ntmps18
  go_wp2_with fail
  have q0 : Below w.heap.size w (w.alloc (.cells #[sv, cv] 41)) := (Below.refl _ w).alloc (Nat.le_refl _) _
  refine (law_szStrS sv nS S L _ h0 hL hS HS.out ((H1.out.below q0).wide (by simp))).mono ?_
  rintro e w1 ⟨r, rfl, hr, rfl⟩
  rcases hr with rfl | ⟨hr0, hr1, hz0⟩
  · go_wp2_with fail
    go_ret
    exact ⟨_, rfl, .inl rfl, q0⟩
  · have hr0' : ¬ r < 0 := by omega
    have HZ0 := hide hz0
    clear hz0
    go_wp2_with fail
    refine (law_szWrS cv nC A X r _ hr0 (by omega) hC HX.out ((H2.out.below q0).wide (by simp))).mono ?_
    rintro e w2 ⟨r2, rfl, hr2, hb2⟩
    have B2 := hide (q0.trans (hb2.mono (by simp)))
    clear hb2 q0
    rcases hr2 with rfl | ⟨hr20, hr21, hz1⟩
    · go_wp2_with fail
      go_ret
      exact ⟨_, rfl, .inl rfl, B2.out⟩
    · have hr20' : ¬ r2 < 0 := by omega
      have HZ1 := hide hz1
      clear hz1
      go_wp2_with fail
      go_ret
      exact ⟨_, rfl, .inr ⟨hr20, by omega, HZ0.out, HZ1.out⟩, B2.out⟩
set_option maxRecDepth 100000 in
set_option maxHeartbeats 800000 in
theorem law_eqDisk (va vb : Value) (la ha lb hb nS : Nat) (S : Nat → ByteArray) (nC : Nat) (A : Nat → Int) (X : Nat → ByteArray) (w : World) (hS : nS ≤ 1048576) (hC : nC ≤ 1048576) (h1 : dskV w va la ha nS (sC S) nC (wF A X)) (h2 : dskV w vb lb hb nS (sC S) nC (wF A X)) :
    Calls Try.prog 21 #[va, vb] w fun e w' => e = .returned (.bool true) ∧ Below w.heap.size w w' := by
  have i1 := h1.sli
  have i2 := h2.sli
  obtain ⟨sa, ca, rfl, a1, _⟩ := h1
  obtain ⟨sb, cb, rfl, b1, _⟩ := h2
  obtain ⟨_, _, ea, _, i1⟩ := i1
  cases ea
  obtain ⟨_, _, eb, _, i2⟩ := i2
  cases eb
  have H := hide (And.intro a1.str (And.intro b1.str (And.intro i1 i2)))
  clear a1 b1 i1 i2
  go_enter Try.func21, Try.ntmps21
  go_wp2_with fail
  have q0 : Below w.heap.size w ((w.alloc (.cells #[sa, ca] 26)).alloc (.cells #[sb, cb] 26)) := ((Below.refl _ w).alloc (Nat.le_refl _) _).alloc (by simp) _
  refine (eq_strs sa sb nS S _ (by omega) (H.out.1.below q0) (H.out.2.1.below q0)).mono ?_
  rintro e w1 ⟨rfl, hb1⟩
  have c1 : w1.cell? ⟨w.heap.size, 1, none⟩ = some ca := (hb1.cell (p := ⟨w.heap.size, 1, none⟩) (by show _ < (World.heap _).size; simp; omega)).trans (by go_simp)
  have c2 : w1.cell? ⟨w.heap.size + 1, 1, none⟩ = some cb := (hb1.cell (p := ⟨w.heap.size + 1, 1, none⟩) (by show _ < (World.heap _).size; simp)).trans (by go_simp)
  have B1 := hide (q0.trans (hb1.mono (by simp; omega)))
  have hs1 := B1.out.size
  clear hb1 q0
  go_wp2_with fail
  refine (law_eqWrS ca cb nC A X _ hC ((H.out.2.2.1.below B1.out).wide hs1) ((H.out.2.2.2.below B1.out).wide hs1)).mono ?_
  rintro e w2 ⟨rfl, hb2⟩
  have B2 := hide (B1.out.trans (hb2.mono hs1))
  clear hb2 c1 c2
  go_wp2_with fail
  go_ret
  exact ⟨rfl, B2.out⟩
end Go.Proofs.Ytipeelkmmjgehab
