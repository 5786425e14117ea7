/- The walks over the laws' markDisk, heldDisk, eqDiskOut, markDiskOut, heldDiskOut. -/
import Derived.Test.YtipeelkmmjgehabLwDisk
namespace Go.Proofs.Ytipeelkmmjgehab
open Go Go.RowKit
/-- Of the blocks that were there, those from lo on and ahead of hi alone may have turned. -/
structure Only (w w' : World) (lo hi : Nat) : Prop where
  os : w'.os = w.os
  tape : w'.tape = w.tape
  output : w'.output = w.output
  size : w.heap.size ≤ w'.heap.size
  block : ∀ g, g < w.heap.size → g < lo ∨ hi ≤ g → w'.heap[g]? = w.heap[g]?
theorem Only.of_below {w w' : World} {lo hi : Nat} (h : Below w.heap.size w w') : Only w w' lo hi := ⟨h.os, h.tape, h.output, h.size, fun g hg _ => h.block g hg⟩
theorem Only.trans {a b c : World} {lo hi : Nat} (h : Only a b lo hi) (k : Only b c lo hi) : Only a c lo hi :=
  ⟨k.os.trans h.os, k.tape.trans h.tape, k.output.trans h.output, Nat.le_trans h.size k.size, fun g h1 h2 => (k.block g (Nat.lt_of_lt_of_le h1 h.size) h2).trans (h.block g h1 h2)⟩
theorem Only.of_grown {w w' : World} {v : Value} {lo hi : Nat} (h : w.grownBy w' v.ownBlock) (hw : within v lo hi) : Only w w' lo hi :=
  ⟨h.os, h.tape, h.output, h.size, fun g hg h2 => h.block g hg (fun e => by have := hw g e.symm; omega)⟩
theorem Only.below {w w' : World} {lo hi : Nat} (h : Only w w' lo hi) (hl : lo ≤ w.heap.size) : Below lo w w' := ⟨h.os, h.tape, h.output, h.size, fun g hg => h.block g (by omega) (.inl hg)⟩
theorem frozen_blk {w w' : World} {g j : Nat} (e : w'.heap[g]? = w.heap[g]?) : w'.frozen? ⟨g, j, none⟩ = w.frozen? ⟨g, j, none⟩ := by simp [World.frozen?, e]
theorem valM.blk {m : Nat} {w w' : World} {v : Value} {n : Nat} {f : Nat → Value} (h : valM m w v n f) (hs : w.heap.size ≤ w'.heap.size) (hb : ∀ k, v.ownBlock = some k → w'.heap[k]? = w.heap[k]?) : valM m w' v n f := by
  obtain ⟨ao, cap, rfl, hcap, h | ⟨g, rfl, hl, hc⟩⟩ := h
  · exact ⟨ao, cap, rfl, hcap, .inl h⟩
  · have e := hb g rfl
    exact ⟨_, cap, rfl, hcap, .inr ⟨g, rfl, by omega, fun j hj => by rw [World.cell?_of_block (w := w) (a := ⟨g, j, none⟩) e, frozen_blk e]; exact hc j hj⟩⟩
theorem valM.lt {m : Nat} {w : World} {v : Value} {n : Nat} {f : Nat → Value} (h : valM m w v n f) (hn : n ≠ 0) : ∀ k, v.ownBlock = some k → k < w.heap.size := by
  obtain ⟨ao, cap, rfl, hcap, h | ⟨g, rfl, hl, hc⟩⟩ := h
  · exact absurd h hn
  · intro k e; cases e; exact hl
theorem valM.zero {m : Nat} {w w' : World} {v : Value} {f k : Nat → Value} (h : valM m w v 0 f) : valM m w' v 0 k := by
  obtain ⟨ao, cap, rfl, hcap, _⟩ := h
  exact ⟨ao, cap, rfl, hcap, .inl rfl⟩
theorem valM.only {m : Nat} {w w' : World} {v : Value} {n lo hi a b : Nat} {f : Nat → Value} (h : valM m w v n f) (ho : Only w w' lo hi) (hw : within v a b) (hd : b ≤ lo ∨ hi ≤ a) : valM m w' v n f := by
  by_cases hn : n = 0
  · subst hn; exact h.zero
  · exact h.blk ho.size (fun k hk => ho.block k (h.lt hn k hk) (by have := hw k hk; omega))
theorem dskV.only {w w' : World} {v : Value} {a b lo hi nS : Nat} {fS : Nat → Value} {nC : Nat} {fC : Nat → Value} (h : dskV w v a b nS fS nC fC) (ho : Only w w' lo hi) (hd : b ≤ lo ∨ hi ≤ a) : dskV w' v a b nS fS nC fC := by
  obtain ⟨sv, cv, rfl, h1, h2, h3, h4, h5⟩ := h
  exact ⟨sv, cv, rfl, h1.only ho h3 hd, h2.only ho h4 hd, h3, h4, h5⟩
/-- The marks on texts. -/
def mS (k0 : Nat) : Nat → Value := sC (fun j => markT (k0 + j))
set_option maxRecDepth 100000 in
set_option maxHeartbeats 800000 in
theorem law_markDisk (v : Value) (lo hi nS : Nat) (S : Nat → ByteArray) (nC : Nat) (fC : Nat → Value) (k0 : Nat) (w : World) (hS : nS ≤ 1048576) (hC : nC ≤ 1048576) (hk : k0 ≤ 4194304) (hhi : hi ≤ w.heap.size) (h : dskV w v lo hi nS (sC S) nC fC) :
    Calls Try.prog 23 #[v, .int .i64 k0] w fun e w' => e = .returned (.int .i64 ((k0 + nS + 2 * nC : Nat) : Int)) ∧ dskV w' v lo hi nS (mS k0) nC (mkWr (k0 + nS)) ∧ Only w w' lo hi := by
  obtain ⟨sv, cv, rfl, h1, h2, h3, h4, h5⟩ := h
  have H := hide (And.intro h1 (And.intro h2 (And.intro h3 (And.intro h4 h5))))
  clear h1 h2 h3 h4 h5
  obtain ⟨K1, hK1⟩ : ∃ K1, K1 = k0 + nS := ⟨_, rfl⟩
  obtain ⟨K2, hK2⟩ : ∃ K2, K2 = k0 + nS + 2 * nC := ⟨_, rfl⟩
  have HK := hide (And.intro hK1 hK2)
  rw [← hK2, ← hK1]
  have hK1b : K1 ≤ 8388608 := by omega
  clear hK1 hK2
  go_enter Try.func23, Try.ntmps23
  go_wp2_with fail
  obtain ⟨h1, h2, h3, h4, h5⟩ := H.out
  have q0 : Below w.heap.size w (w.alloc (.cells #[sv, cv] 26)) := (Below.refl _ w).alloc (Nat.le_refl _) _
  have qs : (w.alloc (.cells #[sv, cv] 26)).heap.size = w.heap.size + 1 := by simp
  have qc : (w.alloc (.cells #[sv, cv] 26)).cell? ⟨w.heap.size, 1, none⟩ = some cv := by go_simp
  generalize w.alloc (.cells #[sv, cv] 26) = W1 at *
  have SM := mark_strs sv nS k0 S W1 (by omega) (by omega) (h1.str.below q0)
  rw [← HK.out.1] at SM
  refine SM.mono ?_
  rintro e w1 ⟨rfl, hm1, hg1⟩
  have c1 : w1.cell? ⟨w.heap.size, 1, none⟩ = some cv := (hg1.cell_far ⟨w.heap.size, 1, none⟩ (by show w.heap.size < _; omega) (fun e => by have := h3 w.heap.size e.symm; omega)).trans qc
  have v1 : valM 1 w1 sv nS (mS k0) := strV.valM h1 hm1
  have v2 : valM 2 w1 cv nC fC := (h2.below q0).kept hg1 (fun k hk e => h5 k e.symm hk)
  have o1 : Only w w1 lo hi := (Only.of_below q0).trans (Only.of_grown hg1 h3)
  have A1 := hide (And.intro v1 (And.intro v2 (And.intro o1 (And.intro h3 (And.intro h4 h5)))))
  clear SM hm1 hg1 v1 v2 o1 h1 h2 h3 h4 h5 q0 qs qc
  go_wp2_with fail
  have SW := law_markWr cv nC K1 fC w1 hC hK1b A1.out.2.1
  rw [show K1 + 2 * nC = K2 by have := HK.out; omega] at SW
  refine SW.mono ?_
  rintro e w2 ⟨rfl, hv2, hg2⟩
  obtain ⟨v1, v2, o1, h3, h4, h5⟩ := A1.out
  have R1 := hide (show dskV w2 (.agg #[sv, cv]) lo hi nS (mS k0) nC (mkWr K1) from ⟨sv, cv, rfl, v1.kept hg2 (fun k hk e => h5 k hk e.symm), hv2, h3, h4, h5⟩)
  have R2 := hide (o1.trans (Only.of_grown hg2 h4))
  clear v1 v2 o1 h3 h4 h5 SW hv2 hg2 A1 H c1
  go_wp2_with fail
  go_ret
  exact ⟨rfl, R1.out, R2.out⟩
set_option maxRecDepth 100000 in
set_option maxHeartbeats 800000 in
theorem law_heldDisk (v : Value) (lo hi nS nC k0 : Nat) (w : World) (hS : nS ≤ 1048576) (hC : nC ≤ 1048576) (hk : k0 ≤ 4194304) (h : dskV w v lo hi nS (mS k0) nC (mkWr (k0 + nS))) :
    Calls Try.prog 27 #[v, .int .i64 k0] w fun e w' => e = .returned (.int .i64 ((k0 + nS + 2 * nC : Nat) : Int)) ∧ Below w.heap.size w w' := by
  obtain ⟨sv, cv, rfl, h1, h2, _⟩ := h
  obtain ⟨K1, hK1⟩ : ∃ K1, K1 = k0 + nS := ⟨_, rfl⟩
  obtain ⟨K2, hK2⟩ : ∃ K2, K2 = k0 + nS + 2 * nC := ⟨_, rfl⟩
  rw [← hK1] at h2
  have H := hide (And.intro h1 h2)
  clear h1 h2
  have HK := hide (And.intro hK1 hK2)
  rw [← hK2]
  have hK1b : K1 ≤ 8388608 := by omega
  have n1 : ¬ (K1 : Int) < 0 := by omega
  have n2 : ¬ (K2 : Int) < 0 := by omega
  clear hK1 hK2
  go_enter Try.func27, Try.ntmps27
  go_wp2_with fail
  have q0 : Below w.heap.size w (w.alloc (.cells #[sv, cv] 26)) := (Below.refl _ w).alloc (Nat.le_refl _) _
  have qs : (w.alloc (.cells #[sv, cv] 26)).heap.size = w.heap.size + 1 := by simp
  have qc : (w.alloc (.cells #[sv, cv] 26)).cell? ⟨w.heap.size, 1, none⟩ = some cv := by go_simp
  generalize w.alloc (.cells #[sv, cv] 26) = W1 at *
  have SM := held_strs sv nS k0 W1 (by omega) (by omega) (H.out.1.str.below q0)
  rw [← HK.out.1] at SM
  refine SM.mono ?_
  rintro e w1 ⟨rfl, hb1⟩
  have c1 : w1.cell? ⟨w.heap.size, 1, none⟩ = some cv := (hb1.cell (p := ⟨w.heap.size, 1, none⟩) (by show w.heap.size < _; omega)).trans qc
  have B1 := hide (q0.trans (hb1.mono (by omega)))
  have hs1 := B1.out.size
  clear SM hb1 q0 qs qc
  go_wp2_with fail
  have SW := law_heldWr cv nC K1 w1 hC hK1b (H.out.2.below B1.out)
  rw [show K1 + 2 * nC = K2 by have := HK.out; omega] at SW
  refine SW.mono ?_
  rintro e w2 ⟨rfl, hb2⟩
  have B2 := hide (B1.out.trans (hb2.mono hs1))
  clear SW hb2 c1 B1
  go_wp2_with fail
  go_ret
  exact ⟨rfl, B2.out⟩
end Go.Proofs.Ytipeelkmmjgehab
