/- The program's past: openingAt walked. -/
import Derived.Test.YtdoodkabmeojmaaDoorPastP
import Derived.Test.YtdoodkabmeojmaaDoorHeldOne
import Derived.Laws.ResultCell
namespace Go.Proofs.YtdoodkabmeojmaaDoor
open Go Go.RowKit
theorem Tryd.size3 : (Tryd.prog.info? 100).map (·.size) = some 3 := by kernel_rfl
theorem ret_BT {P : Program} {fn : Func} {p u : Tmp} {ty : TypeId} (h : fn.results = #[.cell p ty, .tmp u]) (tmps : Array Value) (w : World) (g n : Nat) (t : TypeId) (k : Nat → UInt8) (d : TypeDesc)
    (hp : tmps.getD p undef = .pointer (some ⟨g, 0, none⟩)) (hrow : w.rowIs g t n (u8V k)) (hu : P.underlying ty = some d) (hd : d.isRow = true) (hi : (P.info? ty).map (·.size) = some n) :
    (results fn tmps).run P w = .ok (.tuple #[.agg (bL n k).toArray, tmps.getD u undef]) w := by
  rw [results_cell_tmp h, hp]
  simp [asAddr, run_loadVar_row w g t ty _ (0, 0) d (row_heap hrow) hu (by cases d <;> simp_all) (by rw [bL_size]; exact hi), Result.andThen]
/-- The opening at a place: what lies there, as far as the text goes. -/
def opF (T : Nat → UInt8) (N here j : Nat) : UInt8 := if here + j < N then T (here + j) else 0
set_option maxRecDepth 100000 in
set_option maxHeartbeats 800000 in
theorem imp_openingAt (p tb mb N cap here : Nat) (T : Nat → UInt8) (w : World) (h : Pst w p tb mb N cap T) (hN : N ≤ 4000) (hh : here < N) (ok : Bool) (hok : ok = decide (here + 3 ≤ N)) :
    Calls Tryd.prog 51 #[.pointer (some ⟨p, 0, none⟩), .int .i64 (here : Int)] w fun e w' => e = .returned (.tuple #[.agg (bL 3 (opF T N here)).toArray, .bool ok]) ∧ Below w.heap.size w w' := by
  obtain ⟨m, hm⟩ : ∃ m, m = Nat.min (N - here) 3 := ⟨_, rfl⟩
  have hm3 : m ≤ 3 := by rw [hm]; exact Nat.min_le_right _ _
  have hmN : m ≤ N - here := by rw [hm]; exact Nat.min_le_left _ _
  have hmc : m = 3 ∨ m = N - here := by rw [hm]; show (if N - here ≤ 3 then N - here else 3) = 3 ∨ (if N - here ≤ 3 then N - here else 3) = N - here; split <;> omega
  have hmk : ((m : Int) == 3) = ok := by
    rw [hok]
    by_cases e : here + 3 ≤ N
    · rw [decide_eq_true e]
      have : m = 3 := by omega
      rw [this]; rfl
    · rw [decide_eq_false e, beq_eq_false_iff_ne]
      omega
  have h0 : w.heap.size < w.heap.size + 1 := Nat.lt_succ_self _
  obtain ⟨W, hW⟩ : ∃ W, W = (w.alloc (.cells #[.int .u8 0, .int .u8 0, .int .u8 0] 100)).alloc (.cells #[.int .u8 0, .int .u8 0, .int .u8 0] 100) := ⟨_, rfl⟩
  have r4 : W.rowIs w.heap.size 100 3 (u8V fun _ => 0) := by rw [hW]; exact (zeros8_row 3 w _ _ rfl).alloc _
  have r6 : W.rowIs (w.heap.size + 1) 100 3 (u8V fun _ => 0) := by
    have := zeros8_row 3 (w.alloc (.cells #[.int .u8 0, .int .u8 0, .int .u8 0] 100)) #[.int .u8 0, .int .u8 0, .int .u8 0] 100 rfl
    rw [hW]; simpa using this
  have HP := h
  have hP : Pst W p tb mb N cap T := by rw [hW]; exact (h.alloc _).alloc _
  have hB : Below w.heap.size w W := by rw [hW]; exact ((Below.refl _ w).alloc (Nat.le_refl _) _).alloc (by simp) _
  have hcap := h.cap
  have hhc : (here : Int) ≤ (N : Int) := by omega
  have htb : tb < w.heap.size := h.row.1
  have hpl : p < w.heap.size := h.lt
  clear h hok HP
  go_enter Tryd.func51, Tryd.ntmps51
  go_wp2_with fail
  rw [← hW]
  clear hW
  have c0 : W.drew.cell? ⟨p, 0, none⟩ = some (.slice (some ⟨tb, 0, none⟩) N cap) := hP.c0
  have hne : here < cap := by omega
  have hmin := hide (show m = Nat.min (N - here) 3 from hm)
  have hrg : W.drew.rangeAt tb here (bL m (fun j => T (here + j))) := by
    intro j v hv
    have hj : j < m := by
      rcases Nat.lt_or_ge j m with h | h
      · exact h
      · rw [List.getElem?_eq_none (by rw [bL_len]; exact h)] at hv; cases hv
    have e : (bL m (fun j => T (here + j)))[j]? = some (u8V (fun j => T (here + j)) j) := by simp [bL, hj]
    rw [e] at hv
    rw [← Option.some.inj hv]
    exact (hP.row.drew.2 (here + j) (by omega)).1
  have hth := row_there (w := W.drew) (o := 0) (n := m) r6 (by omega)
  have hnc : cap - here ≠ 0 := by omega
  have c0' : (W.drew.setCells (w.heap.size + 1) 0 (bL m (fun j => T (here + j)))).cell? ⟨p, 0, none⟩ = some (.slice (some ⟨tb, 0, none⟩) N cap) :=
    (World.cell?_of_block (w := W.drew) (a := ⟨p, 0, none⟩) (setCells_far (w.heap.size + 1) _ 0 W.drew p (by omega))).trans c0
  clear hm
  refine wp_region_held_drew (S := fun w' => w'.cell? ⟨p, 0, none⟩ = some (.slice (some ⟨tb, 0, none⟩) N cap)) (by kernel_rfl) c0 (fun hHeld => ?_)
  refine takeD (i := 0) (v := .slice (some ⟨w.heap.size + 1, 0, none⟩) 3 3) (some 8) rfl rfl (by kernel_rfl) (by kernel_rfl) (by kernel_rfl) (fun _ _ _ h => h) (Or.inl ⟨by rfl, fun w hSw => by go_simp⟩) hHeld ?_
  simp only [Act.put, List.setIfInBounds_toArray, List.set_cons_zero, List.set_cons_succ]
  refine takeD (i := 1) (v := .pointer (some ⟨p, 0, none⟩)) (some 9) rfl rfl (by kernel_rfl) (by kernel_rfl) (by kernel_rfl) (fun _ _ _ h => h) (Or.inl ⟨by rfl, fun w hSw => by go_simp⟩) hHeld ?_
  simp only [Act.put, List.setIfInBounds_toArray, List.set_cons_zero, List.set_cons_succ]
  refine takeD (i := 2) (v := .pointer (some ⟨p, 0, none⟩)) (some 10) rfl rfl (by kernel_rfl) (by kernel_rfl) (by kernel_rfl) (fun _ _ _ h => h) (Or.inl ⟨by rfl, fun w hSw => by go_simp⟩) hHeld ?_
  simp only [Act.put, List.setIfInBounds_toArray, List.set_cons_zero, List.set_cons_succ]
  refine takeD (i := 3) (v := .pointer (some ⟨p, 0, none⟩)) (some 11) rfl rfl (by kernel_rfl) (by kernel_rfl) (by kernel_rfl) (fun _ _ _ h => h) (Or.inl ⟨by rfl, fun w hSw => by go_simp⟩) hHeld ?_
  simp only [Act.put, List.setIfInBounds_toArray, List.set_cons_zero, List.set_cons_succ]
  refine takeD (i := 4) (v := .slice (some ⟨tb, 0, none⟩) N cap) (some 12) rfl rfl (by kernel_rfl) (by kernel_rfl) (by kernel_rfl) (fun _ _ _ h => h) (Or.inl ⟨by rfl, fun w hSw => by go_simp⟩) hHeld ?_
  simp only [Act.put, List.setIfInBounds_toArray, List.set_cons_zero, List.set_cons_succ]
  refine takeD (i := 5) (v := .int .i64 (here : Int)) (some 13) rfl rfl (by kernel_rfl) (by kernel_rfl) (by kernel_rfl) (fun _ _ _ h => h) (Or.inl ⟨by rfl, fun w hSw => by go_simp⟩) hHeld ?_
  simp only [Act.put, List.setIfInBounds_toArray, List.set_cons_zero, List.set_cons_succ]
  refine takeD (i := 6) (v := .slice (some ⟨tb, here, none⟩) (N - here) (cap - here)) (some 14) rfl rfl (by kernel_rfl) (by kernel_rfl) (by kernel_rfl) (fun _ _ _ h => h) (Or.inl ⟨by rfl, fun w hSw => by go_simp; omega⟩) hHeld ?_
  simp only [Act.put, List.setIfInBounds_toArray, List.set_cons_zero, List.set_cons_succ]
  refine wpAnyH_ready (rs := [7]) (by kernel_rfl) (by simp) ?_
  refine AllReadyH.cons rfl (fun KK hK => ?_) AllReadyH.nil
  refine step_copy_BD (some 15) rfl rfl (.tmp 8) (.tmp 14) 22 22 rfl 5 Tryd.underlying22 (by kernel_rfl) (w.heap.size + 1) 0 3 3 tb here (N - here) (cap - here) rfl rfl m (fun j => T (here + j)) hmin.out hrg hth ?_
  simp only [Act.put, List.setIfInBounds_toArray, List.set_cons_zero, List.set_cons_succ]
  refine hK.out _ _ c0' (fun hHeld => ?_)
  clear hK KK
  refine takeD (i := 8) (v := goInt m) (some 7) rfl rfl (by kernel_rfl) (by kernel_rfl) (by kernel_rfl) (fun _ _ _ h => h) (Or.inl ⟨by rfl, fun w hSw => by go_simp⟩) hHeld ?_
  simp only [Act.put, List.setIfInBounds_toArray, List.set_cons_zero, List.set_cons_succ]
  refine wpAnyH_done (by kernel_rfl) ?_ _
  have s4 := row_setCells_other (b := w.heap.size + 1) (o := 0) (vs := bL m (fun j => T (here + j))) r4.drew (by omega)
  have s6 := (row_setCells (o := 0) (n := m) (k := fun j => T (here + j)) r6.drew (by omega)).congr (g := u8V (opF T N here)) (fun i hi => by
    show Value.int .u8 _ = Value.int .u8 _
    congr 3
    show (if 0 ≤ i ∧ i < 0 + m then T (here + (i - 0)) else 0) = if here + i < N then T (here + i) else 0
    by_cases e : i < m
    · rw [if_pos (show 0 ≤ i ∧ i < 0 + m by omega), if_pos (show here + i < N by omega), Nat.sub_zero]
    · rw [if_neg (show ¬ (0 ≤ i ∧ i < 0 + m) by omega), if_neg (show ¬ here + i < N by omega)])
  have sb := below_setCells' (b := w.heap.size + 1) (o := 0) (vs := bL m (fun j => T (here + j))) hB.drew (by omega)
  generalize W.drew.setCells (w.heap.size + 1) 0 (bL m (fun j => T (here + j))) = W5 at *
  clear r4 r6 hrg hth hmin c0 c0' hP hB
  have hth := row_there (o := 0) (n := 3) s4 (by omega)
  have hfin := row_setCells0 (k := opF T N here) s4
  obtain ⟨K, hK⟩ : ∃ K, K = opF T N here := ⟨_, rfl⟩
  rw [← hK] at s6 hfin
  have HK := hide hK
  clear hK hHeld
  go_wp2_with (first | (refine wpList_load_B rfl 100 (.tmp 6) rfl (w.heap.size + 1) 0 rfl _ _ 3 _ K _ s6 (by omega) (fun j _ => by rw [Nat.zero_add]) Tryd.underlying100 rfl Tryd.size3 ?_) | (refine wpList_store_B rfl 100 (.tmp 4) (.tmp 16) rfl w.heap.size 0 3 K rfl rfl hth Tryd.size3 ?_))
  exact bodyPost_ret (ret_BT Tryd.results51 _ _ w.heap.size 3 _ _ _ rfl hfin Tryd.underlying100 rfl Tryd.size3) rfl ⟨by rw [← HK.out]; rfl, below_setCells' sb (Nat.le_refl _)⟩
end Go.Proofs.YtdoodkabmeojmaaDoor
