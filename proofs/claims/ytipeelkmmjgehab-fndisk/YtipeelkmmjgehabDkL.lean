/- The walk over the program's latest (written by mkdkl.py). -/
import Derived.Test.YtipeelkmmjgehabSecI
import Derived.Test.YtipeelkmmjgehabDskC
namespace Go.Proofs.Ytipeelkmmjgehab
open Go Go.RowKit
/-- Of each number the last write of it. -/
def latM (A : Nat → Int) (X : Nat → ByteArray) : Nat → Int → Option ByteArray
  | 0 => fun _ => none
  | k + 1 => updM (latM A X k) (A k) (X k)
section
variable {P : Program} {ops : Array Oper} {Q : Exit → Act → World → Prop}
theorem step_sec_update {o : Oper} {a : Act} {w : World} {K : Act → World → Prop} {E : Prop} (d : Option Nat) (hd : o.dst = d) (hgd : o.guard = none) (t : TypeId) (m x v : Operand) (ho : o.op = .mapUpdate t m x v)
    (k e : TypeId) (hk : P.underlying k = some (.int .i64)) (ht : P.underlying t = some (.map k e)) (mb n : Nat) (M : Int → Option ByteArray)
    (hm : a.eval m = .map (some mb)) (h : SecM P k w mb n M) (hn : n < maxLen) (A : Int) (T : ByteArray) (hx : a.eval x = .int .i64 A) (hwf : (Lit.int .i64 A).wf = true) (hv : a.eval v = secV T)
    (hK : ∀ w', SecM P k w' mb (n + 1) (updM M A T) → w.grownBy w' (some mb) → K (a.put d undef) w') : if Region.wanted o (yielded ops a.tmps) = true then Oper.wp P o a w K Q else E := by
  subst hd
  obtain ⟨w', hrun, h1, h2⟩ := h.update hk ht hn A hwf T
  rw [if_pos (by simp [Region.wanted, hgd])]
  unfold Oper.wp
  simp [execOp, ho, hm, hx, hv, hrun, Result.andThen]
  exact hK w' h1 h2
end
theorem i64_wf {a : Int} (h0 : 0 ≤ a) (h1 : a ≤ 4611686018427387904) : (Lit.int .i64 a).wf = true := by
  simp [Lit.wf]; exact ⟨Int.le_trans (by decide) h0, Int.le_trans h1 (by decide)⟩
set_option maxRecDepth 100000 in
set_option maxHeartbeats 1600000 in
theorem imp_latest (cv : Value) (nC : Nat) (A : Nat → Int) (X : Nat → ByteArray) (w : World) (hC : nC ≤ 1048576) (hA : ∀ j, j < nC → 0 ≤ A j ∧ A j ≤ 1048576) (hX : ∀ j, j < nC → (X j).size = 64) (h : sliI 2 w w.heap.size cv nC (cWr A X)) :
    Calls Try.prog 64 #[cv] w fun e w' => ∃ mb, e = .returned (.map (some mb)) ∧ SecM Try.prog 2 w' mb nC (latM A X nC) ∧ w.heap.size ≤ mb ∧ Below w.heap.size w w' := by
  obtain ⟨ca, ck, rfl, hck, hc⟩ := h
  have HC := hide hc
  have HA := hide (And.intro hA hX)
  clear hc hA hX
  have hck' : (nC : Int) ≤ (ck : Int) := by omega
  have hmm := @run_makeMap Try.prog
  have q0 := (Below.refl w.heap.size w).alloc (Nat.le_refl _) (.map #[] 0)
  have q1 := hide (SecM.made w Try.prog 2)
  have qs : (w.alloc (.map #[] 0)).heap.size = w.heap.size + 1 := by simp
  go_enter Try.func64, Try.ntmps64
  go_wp2_with fail
  generalize w.alloc (.map #[] 0) = W1 at *
  clear hmm
  have Q0 := hide q0
  clear q0
  go_loopw [9] (fun i wx => ∃ k : Nat, k ≤ nC ∧ i = .int .i64 k ∧ Hid (SecM Try.prog 2 wx w.heap.size k (latM A X k)) ∧ Hid (Below w.heap.size w wx) ∧ w.heap.size < wx.heap.size) (fun i _ => nC - (intOf i).toNat)
  case atStart => exact ⟨0, Nat.zero_le _, rfl, q1, Q0, by omega⟩
  case round =>
    obtain ⟨k, hk, rfl, HM, HB0, hsz⟩ := hrel
    by_cases hlt : k < nC
    · have hlt' : (k : Int) < (nC : Int) := by omega
      obtain h00 | ⟨r, o, rfl, hr, hcells⟩ := HC.out
      · omega
      obtain ⟨a, ha⟩ : ∃ a, a = A k := ⟨_, rfl⟩
      obtain ⟨x, hx⟩ : ∃ x, x = X k := ⟨_, rfl⟩
      obtain ⟨q, hq⟩ : ∃ q, q = o + 2 * k := ⟨_, rfl⟩
      have y0 : wr.cell? ⟨r, q, none⟩ = some (.int .i64 a) := by rw [hq, ha]; exact (HB0.out.cell (p := ⟨r, o + 2 * k, none⟩) hr).trans (hcells k hlt 0 (by omega))
      have y1 : wr.cell? ⟨r, q + 1, none⟩ = some (.string x) := by rw [hq, hx]; exact (HB0.out.cell (p := ⟨r, o + 2 * k + 1, none⟩) hr).trans (hcells k hlt 1 (by omega))
      have n1 : o + 2 * k = q := hq.symm
      have n2 : o + k * 2 = q := by omega
      have ha2 : 0 ≤ a ∧ a ≤ 1048576 := by rw [ha]; exact HA.out.1 k hlt
      have hxs : x.size = 64 := by rw [hx]; exact HA.out.2 k hlt
      have hwf := i64_wf ha2.1 (by omega)
      have HX := hide (And.intro ha hx)
      have HB := hide (HB0.out.alloc HB0.out.size (.cells #[.int .i64 a, .string x] 70))
      clear hcells HC ha hx hq
      go_wp2_with fail
      have t0 : (wr.alloc (.cells #[.int .i64 a, .string x] 70)).drew.cell? ⟨wr.heap.size, 0, none⟩ = some (.int .i64 a) := by rw [World.cell?_drew]; go_simp
      have t1 : (wr.alloc (.cells #[.int .i64 a, .string x] 70)).drew.cell? ⟨wr.heap.size, 1, none⟩ = some (.string x) := by rw [World.cell?_drew]; go_simp
      refine wp_region_held_drew (S := fun u => u.cell? ⟨wr.heap.size, 0, none⟩ = some (.int .i64 a) ∧ u.cell? ⟨wr.heap.size, 1, none⟩ = some (.string x)) (by kernel_rfl) ⟨t0, t1⟩ (fun hHeld => ?_)
      clear t0 t1 y0 y1
      refine takeD (i := 0) (v := .map (some w.heap.size)) (some 13) rfl rfl (by kernel_rfl) (by kernel_rfl) (by kernel_rfl) (fun _ _ _ h => h) (Or.inl ⟨by rfl, fun w hSw => by go_simp⟩) hHeld ?_
      simp only [Act.put, List.setIfInBounds_toArray, List.set_cons_zero, List.set_cons_succ]
      refine takeD (i := 1) (v := .pointer (some ⟨wr.heap.size, 0, none⟩)) (some 14) rfl rfl (by kernel_rfl) (by kernel_rfl) (by kernel_rfl) (fun _ _ _ h => h) (Or.inl ⟨by rfl, fun w hSw => by go_simp⟩) hHeld ?_
      simp only [Act.put, List.setIfInBounds_toArray, List.set_cons_zero, List.set_cons_succ]
      refine takeD (i := 2) (v := .int .i64 a) (some 15) rfl rfl (by kernel_rfl) (by kernel_rfl) (by kernel_rfl) (fun _ _ _ h => h) (Or.inl ⟨by rfl, fun w hSw => by obtain ⟨s0, s1⟩ := hSw; go_simp⟩) hHeld ?_
      simp only [Act.put, List.setIfInBounds_toArray, List.set_cons_zero, List.set_cons_succ]
      refine takeD (i := 3) (v := .pointer (some ⟨wr.heap.size, 1, none⟩)) (some 16) rfl rfl (by kernel_rfl) (by kernel_rfl) (by kernel_rfl) (fun _ _ _ h => h) (Or.inl ⟨by rfl, fun w hSw => by go_simp⟩) hHeld ?_
      simp only [Act.put, List.setIfInBounds_toArray, List.set_cons_zero, List.set_cons_succ]
      refine takeD (i := 4) (v := .string x) (some 17) rfl rfl (by kernel_rfl) (by kernel_rfl) (by kernel_rfl) (fun _ _ _ h => h) (Or.inl ⟨by rfl, fun w hSw => by obtain ⟨s0, s1⟩ := hSw; go_simp⟩) hHeld ?_
      simp only [Act.put, List.setIfInBounds_toArray, List.set_cons_zero, List.set_cons_succ]
      refine wpAnyH_ready (rs := [5]) (by kernel_rfl) (by simp) ?_
      refine AllReadyH.cons rfl (fun KK hK => ?_) AllReadyH.nil
      go_simp
      refine (imp_sectorOf x _ (by omega)).mono ?_
      rintro e w2 ⟨rfl, hb2⟩
      have hb3 := HB.out.drew.trans (hb2.mono (by simp; omega))
      have e2 : w2.heap[w.heap.size]? = wr.heap[w.heap.size]? := (hb2.block w.heap.size (by simp; omega)).trans (Below.heap_alloc _ _ _ (by omega))
      have e0 : w2.heap[wr.heap.size]? = some (.cells #[.int .i64 a, .string x] 70) := (hb2.block wr.heap.size (by simp)).trans (heap_alloc_new _ _)
      have s0 : w2.cell? ⟨wr.heap.size, 0, none⟩ = some (.int .i64 a) := by simp [World.cell?, e0]
      have s1 : w2.cell? ⟨wr.heap.size, 1, none⟩ = some (.string x) := by simp [World.cell?, e0]
      have M2 := hide (HM.out.blk e2)
      clear e2 e0 hb2
      go_wp2_with fail
      refine hK.out _ _ ⟨s0, s1⟩ (fun hHeld => ?_)
      clear hK KK
      refine wpAnyH_ready (rs := [6]) (by kernel_rfl) (by simp) ?_
      refine AllReadyH.cons rfl (fun KK hK => ?_) AllReadyH.nil
      refine step_sec_update none rfl rfl _ (.tmp 13) (.tmp 15) (.tmp 18) rfl 2 66 Try.underlying2 Try.underlying72 w.heap.size k (latM A X k) rfl M2.out (by unfold maxLen; omega) a x rfl hwf rfl ?_
      intro w3 hm3 hg3
      have hne : wr.heap.size ≠ w.heap.size := by omega
      have hs2 : wr.heap.size < w2.heap.size := World.block_lt_of_cell? w2 _ s0
      have e3 := hg3.block wr.heap.size hs2 (by simp; omega)
      have u0 : w3.cell? ⟨wr.heap.size, 0, none⟩ = some (.int .i64 a) := (World.cell?_of_block (w := w2) (a := ⟨wr.heap.size, 0, none⟩) e3).trans s0
      have u1 : w3.cell? ⟨wr.heap.size, 1, none⟩ = some (.string x) := (World.cell?_of_block (w := w2) (a := ⟨wr.heap.size, 1, none⟩) e3).trans s1
      have R1 := hide (show SecM Try.prog 2 w3 w.heap.size (k + 1) (latM A X (k + 1)) by show SecM Try.prog 2 w3 w.heap.size (k + 1) (updM (latM A X k) (A k) (X k)); rw [← HX.out.1, ← HX.out.2]; exact hm3)
      have R2 := hide (show Below w.heap.size w w3 from ⟨hg3.os.trans hb3.os, hg3.tape.trans hb3.tape, hg3.output.trans hb3.output, Nat.le_trans hb3.size hg3.size, fun g hg => (hg3.block g (Nat.lt_of_lt_of_le hg hb3.size) (by intro e; cases e; omega)).trans (hb3.block g hg)⟩)
      have R3 := R1.out.lt
      simp only [Act.put]
      refine hK.out _ _ ⟨u0, u1⟩ (fun hHeld => ?_)
      clear hK KK hm3 hg3 hb3 e3 M2 HM HB s0 s1 u0 u1 hne hs2
      refine wpAnyH_done (by kernel_rfl) ?_ _
      go_wp2_with fail
      go_roundw
      case rel => exact ⟨k + 1, by omega, by go_num, R1, R2, R3⟩
      case measure => simp [intOf]; omega
    · have hlt' : ¬ (k : Int) < (nC : Int) := by omega
      have hkn : k = nC := by omega
      subst hkn
      go_wp2_with fail
      go_ret
      exact ⟨w.heap.size, rfl, HM.out, Nat.le_refl _, HB0.out⟩
end Go.Proofs.Ytipeelkmmjgehab
