/- Put together: PastO, AppOld. -/
import Derived.Test.YtconcnndghmdfaaGreatDoorSe38
import Derived.Test.YtconcnndghmdfaaGreatDoorSe12
import Derived.Laws.ResultCell
import Derived.Deep.AppendLies
import Derived.Below
import Derived.Test.YtconcnndghmdfaaGreatDoorSe1
namespace Go.Proofs.YtconcnndghmdfaaGreatDoor
open Go Go.RowKit
theorem Tryz.size3 : (Tryz.prog.info? 153).map (·.size) = some 3 := by kernel_rfl
theorem ret_BT {P : Program} {fn : Func} {p u : Tmp} {ty : TypeId} (h : fn.results = #[.cell p ty, .tmp u]) (tmps : Array Value) (w : World) (g n : Nat) (t : TypeId) (k : Nat → UInt8) (d : TypeDesc)
    (hp : tmps.getD p undef = .pointer (some ⟨g, 0, none⟩)) (hrow : w.rowIs g t n (u8V k)) (hu : P.underlying ty = some d) (hd : d.isRow = true) (hi : (P.info? ty).map (·.size) = some n) :
    (results fn tmps).run P w = .ok (.tuple #[.agg (bL n k).toArray, tmps.getD u undef]) w := by
  rw [results_cell_tmp h, hp]
  simp [asAddr, run_loadVar_row w g t ty _ (0, 0) d (row_heap hrow) hu (by cases d <;> simp_all) (by rw [bL_size]; exact hi), Result.andThen]
/-- The opening at a place: what lies there, as far as the text goes. -/
def opF (T : Nat → UInt8) (N here j : Nat) : UInt8 := if here + j < N then T (here + j) else 0
set_option maxRecDepth 100000 in
set_option maxHeartbeats 800000 in
theorem imp_openingAt (p tb mb N cap here : Nat) (T : Nat → UInt8) (w : World) (h : Pst w p tb mb N cap T) (hN : N ≤ 4000) (hh : here < N) (ok : Bool) (hok : ok = decide (here + 3 ≤ N)) :
    Calls Tryz.prog 112 #[.pointer (some ⟨p, 0, none⟩), .int .i64 (here : Int)] w fun e w' => e = .returned (.tuple #[.agg (bL 3 (opF T N here)).toArray, .bool ok]) ∧ Below w.heap.size w w' := by
  obtain ⟨m, hm⟩ : ∃ m, m = Nat.min (N - here) 3 := ⟨_, rfl⟩
  have hm3 : m ≤ 3 := by rw [hm]; exact Nat.min_le_right _ _
  have hmN : m ≤ N - here := by rw [hm]; exact Nat.min_le_left _ _
  have hmc : m = 3 ∨ m = N - here := by rw [hm]; show (if N - here ≤ 3 then N - here else 3) = 3 ∨ (if N - here ≤ 3 then N - here else 3) = N - here; split <;> omega
  have hmk : ((m : Int) == 3) = ok := by
    rw [hok]
    by_cases e : here + 3 ≤ N
    · rw [decide_eq_true e]
      have : m = 3 := by omega
      rw [this]; rfl
    · rw [decide_eq_false e, beq_eq_false_iff_ne]
      omega
  have h0 : w.heap.size < w.heap.size + 1 := Nat.lt_succ_self _
  obtain ⟨W, hW⟩ : ∃ W, W = (w.alloc (.cells #[.int .u8 0, .int .u8 0, .int .u8 0] 153)).alloc (.cells #[.int .u8 0, .int .u8 0, .int .u8 0] 153) := ⟨_, rfl⟩
  have r4 : W.rowIs w.heap.size 153 3 (u8V fun _ => 0) := by rw [hW]; exact (zeros8_row 3 w _ _ rfl).alloc _
  have r6 : W.rowIs (w.heap.size + 1) 153 3 (u8V fun _ => 0) := by
    have := zeros8_row 3 (w.alloc (.cells #[.int .u8 0, .int .u8 0, .int .u8 0] 153)) #[.int .u8 0, .int .u8 0, .int .u8 0] 153 rfl
    rw [hW]; simpa using this
  have HP := h
  have hP : Pst W p tb mb N cap T := by rw [hW]; exact (h.alloc _).alloc _
  have hB : Below w.heap.size w W := by rw [hW]; exact ((Below.refl _ w).alloc (Nat.le_refl _) _).alloc (by simp) _
  have hcap := h.cap
  have hhc : (here : Int) ≤ (N : Int) := by omega
  have htb : tb < w.heap.size := h.row.1
  have hpl : p < w.heap.size := h.lt
  clear h hok HP
  go_enter Tryz.func112, Tryz.ntmps112
  go_wp2_with fail
  rw [← hW]
  clear hW
  have c0 : W.drew.cell? ⟨p, 0, none⟩ = some (.slice (some ⟨tb, 0, none⟩) N cap) := hP.c0
  have hne : here < cap := by omega
  have hmin := hide (show m = Nat.min (N - here) 3 from hm)
  have hrg : W.drew.rangeAt tb here (bL m (fun j => T (here + j))) := by
    intro j v hv
    have hj : j < m := by
      rcases Nat.lt_or_ge j m with h | h
      · exact h
      · rw [List.getElem?_eq_none (by rw [bL_len]; exact h)] at hv; cases hv
    have e : (bL m (fun j => T (here + j)))[j]? = some (u8V (fun j => T (here + j)) j) := by simp [bL, hj]
    rw [e] at hv
    rw [← Option.some.inj hv]
    exact (hP.row.drew.2 (here + j) (by omega)).1
  have hth := row_there (w := W.drew) (o := 0) (n := m) r6 (by omega)
  have hnc : cap - here ≠ 0 := by omega
  have c0' : (W.drew.setCells (w.heap.size + 1) 0 (bL m (fun j => T (here + j)))).cell? ⟨p, 0, none⟩ = some (.slice (some ⟨tb, 0, none⟩) N cap) :=
    (World.cell?_of_block (w := W.drew) (a := ⟨p, 0, none⟩) (setCells_far (w.heap.size + 1) _ 0 W.drew p (by omega))).trans c0
  clear hm
  refine wp_region_held_drew (S := fun w' => w'.cell? ⟨p, 0, none⟩ = some (.slice (some ⟨tb, 0, none⟩) N cap)) (by kernel_rfl) c0 (fun hHeld => ?_)
  refine takeD (i := 0) (v := .slice (some ⟨w.heap.size + 1, 0, none⟩) 3 3) (some 8) rfl rfl (by kernel_rfl) (by kernel_rfl) (by kernel_rfl) (fun _ _ _ h => h) (Or.inl ⟨by rfl, fun w hSw => by go_simp⟩) hHeld ?_
  simp only [Act.put, List.setIfInBounds_toArray, List.set_cons_zero, List.set_cons_succ]
  refine takeD (i := 1) (v := .pointer (some ⟨p, 0, none⟩)) (some 9) rfl rfl (by kernel_rfl) (by kernel_rfl) (by kernel_rfl) (fun _ _ _ h => h) (Or.inl ⟨by rfl, fun w hSw => by go_simp⟩) hHeld ?_
  simp only [Act.put, List.setIfInBounds_toArray, List.set_cons_zero, List.set_cons_succ]
  refine takeD (i := 2) (v := .pointer (some ⟨p, 0, none⟩)) (some 10) rfl rfl (by kernel_rfl) (by kernel_rfl) (by kernel_rfl) (fun _ _ _ h => h) (Or.inl ⟨by rfl, fun w hSw => by go_simp⟩) hHeld ?_
  simp only [Act.put, List.setIfInBounds_toArray, List.set_cons_zero, List.set_cons_succ]
  refine takeD (i := 3) (v := .pointer (some ⟨p, 0, none⟩)) (some 11) rfl rfl (by kernel_rfl) (by kernel_rfl) (by kernel_rfl) (fun _ _ _ h => h) (Or.inl ⟨by rfl, fun w hSw => by go_simp⟩) hHeld ?_
  simp only [Act.put, List.setIfInBounds_toArray, List.set_cons_zero, List.set_cons_succ]
  refine takeD (i := 4) (v := .slice (some ⟨tb, 0, none⟩) N cap) (some 12) rfl rfl (by kernel_rfl) (by kernel_rfl) (by kernel_rfl) (fun _ _ _ h => h) (Or.inl ⟨by rfl, fun w hSw => by go_simp⟩) hHeld ?_
  simp only [Act.put, List.setIfInBounds_toArray, List.set_cons_zero, List.set_cons_succ]
  refine takeD (i := 5) (v := .int .i64 (here : Int)) (some 13) rfl rfl (by kernel_rfl) (by kernel_rfl) (by kernel_rfl) (fun _ _ _ h => h) (Or.inl ⟨by rfl, fun w hSw => by go_simp⟩) hHeld ?_
  simp only [Act.put, List.setIfInBounds_toArray, List.set_cons_zero, List.set_cons_succ]
  refine takeD (i := 6) (v := .slice (some ⟨tb, here, none⟩) (N - here) (cap - here)) (some 14) rfl rfl (by kernel_rfl) (by kernel_rfl) (by kernel_rfl) (fun _ _ _ h => h) (Or.inl ⟨by rfl, fun w hSw => by go_simp; omega⟩) hHeld ?_
  simp only [Act.put, List.setIfInBounds_toArray, List.set_cons_zero, List.set_cons_succ]
  refine wpAnyH_ready (rs := [7]) (by kernel_rfl) (by simp) ?_
  refine AllReadyH.cons rfl (fun KK hK => ?_) AllReadyH.nil
  refine step_copy_BD (some 15) rfl rfl (.tmp 8) (.tmp 14) 22 22 rfl 5 Tryz.underlying22 (by kernel_rfl) (w.heap.size + 1) 0 3 3 tb here (N - here) (cap - here) rfl rfl m (fun j => T (here + j)) hmin.out hrg hth ?_
  simp only [Act.put, List.setIfInBounds_toArray, List.set_cons_zero, List.set_cons_succ]
  refine hK.out _ _ c0' (fun hHeld => ?_)
  clear hK KK
  refine takeD (i := 8) (v := goInt m) (some 7) rfl rfl (by kernel_rfl) (by kernel_rfl) (by kernel_rfl) (fun _ _ _ h => h) (Or.inl ⟨by rfl, fun w hSw => by go_simp⟩) hHeld ?_
  simp only [Act.put, List.setIfInBounds_toArray, List.set_cons_zero, List.set_cons_succ]
  refine wpAnyH_done (by kernel_rfl) ?_ _
  have s4 := row_setCells_other (b := w.heap.size + 1) (o := 0) (vs := bL m (fun j => T (here + j))) r4.drew (by omega)
  have s6 := (row_setCells (o := 0) (n := m) (k := fun j => T (here + j)) r6.drew (by omega)).congr (g := u8V (opF T N here)) (fun i hi => by
    show Value.int .u8 _ = Value.int .u8 _
    congr 3
    show (if 0 ≤ i ∧ i < 0 + m then T (here + (i - 0)) else 0) = if here + i < N then T (here + i) else 0
    by_cases e : i < m
    · rw [if_pos (show 0 ≤ i ∧ i < 0 + m by omega), if_pos (show here + i < N by omega), Nat.sub_zero]
    · rw [if_neg (show ¬ (0 ≤ i ∧ i < 0 + m) by omega), if_neg (show ¬ here + i < N by omega)])
  have sb := below_setCells' (b := w.heap.size + 1) (o := 0) (vs := bL m (fun j => T (here + j))) hB.drew (by omega)
  generalize W.drew.setCells (w.heap.size + 1) 0 (bL m (fun j => T (here + j))) = W5 at *
  clear r4 r6 hrg hth hmin c0 c0' hP hB
  have hth := row_there (o := 0) (n := 3) s4 (by omega)
  have hfin := row_setCells0 (k := opF T N here) s4
  obtain ⟨K, hK⟩ : ∃ K, K = opF T N here := ⟨_, rfl⟩
  rw [← hK] at s6 hfin
  have HK := hide hK
  clear hK hHeld
  go_wp2_with (first | (refine wpList_load_B rfl 153 (.tmp 6) rfl (w.heap.size + 1) 0 rfl _ _ 3 _ K _ s6 (by omega) (fun j _ => by rw [Nat.zero_add]) Tryz.underlying153 rfl Tryz.size3 ?_) | (refine wpList_store_B rfl 153 (.tmp 4) (.tmp 16) rfl w.heap.size 0 3 K rfl rfl hth Tryz.size3 ?_))
  exact bodyPost_ret (ret_BT Tryz.results112 _ _ w.heap.size 3 _ _ _ rfl hfin Tryz.underlying153 rfl Tryz.size3) rfl ⟨by rw [← HK.out]; rfl, below_setCells' sb (Nat.le_refl _)⟩
end Go.Proofs.YtconcnndghmdfaaGreatDoor
namespace Go.Proofs.YtconcnndghmdfaaGreatDoor
open Go.RowKit Go
section
variable {P : Program} (w : World)
theorem run_append_old (t ty : TypeId) (base : Nat) (e : TypeId) (i : TypeInfo) (z : Value) (bytes : Nat) (ht : P.underlying t = some (.slice e)) (hi : P.info? e = some i) (hz : i.zero = some z)
    (hsize : i.size = 1) (hby : i.bytes = bytes) (hzs : z.cells.size = 1)
    (g0 cap0 n : Nat) (xs : List Value) (hown : w.ownsRow base e 1 (.slice (some ⟨g0, 0, none⟩) n cap0) n xs)
    (ad : Addr) (c : Nat) (x : Value) (hx : w.cell? (ad.add 0) = some x) (h1 : x.oneCell' = true)
    (h63 : n + 1 ≤ maxLen) (hbytes : (n + 1) * bytes ≤ 140737488355328) (hbase : base ≤ w.heap.size) (H : Nat) (hH : w.heap.size = H) :
    ∃ g cap w', (Builtin.append_ #[t, t] ty #[.slice (some ⟨g0, 0, none⟩) n cap0, .slice (some ad) 1 c]).run P w = .ok (.slice (some ⟨g, 0, none⟩) (n + 1) cap) w' ∧
      w'.ownsRow base e 1 (.slice (some ⟨g, 0, none⟩) (n + 1) cap) (n + 1) (xs ++ [x]) ∧ w.grownBy w' (some g0) ∧ (g0 = g ∨ g = H) ∧ g < w'.heap.size ∧ ∀ j, j < n → w'.cell? ⟨g0, j, none⟩ = w.cell? ⟨g0, j, none⟩ := by
  have hnews : ∀ j u, [x][j]? = some u → w.cell? (ad.add j) = some u := by
    intro j u hj
    match j, hj with
    | 0, hj => simp at hj; subst hj; exact hx
  have hone : ∀ u ∈ [x], u.oneCell' = true := by intro u hu; simp at hu; subst hu; exact h1
  obtain ⟨g, cap, w', hr, h2, h3, h4, h5⟩ := run_append_lies (P := P) w t ty base e i z 1 bytes ht hi hz hsize hby hzs (by decide) _ n xs hown ad 1 c [x] rfl hnews hone (by decide) h63 hbytes hbase H hH
  refine ⟨g, cap, w', hr, h2, h3, ?_, h5, ?_⟩
  · rcases h4 with h | h
    · exact .inl (by simpa [Value.ownBlock] using h)
    · exact .inr h
  have hlt := (hown.lt g0 rfl).2
  rcases h4 with h | h
  · have e0 : g0 = g := by simpa [Value.ownBlock] using h
    subst e0
    intro j hj
    have hxl : xs.length = n := by have := hown.1; omega
    rw [h2.cellAt j (by omega), hown.cellAt j (by omega), List.getElem?_append_left (by omega)]
  · intro j hj
    obtain ⟨_, ⟨e0, _⟩ | ⟨g1, cap1, cur, e1, hbg, hg, hnc, hcm, hcs, htake⟩⟩ := hown
    · cases e0
    have e2 : g1 = g0 ∧ cap1 = cap0 := by
      have := e1
      simp at this
      exact ⟨this.1.symm, this.2.symm⟩
    obtain ⟨rfl, rfl⟩ := e2
    by_cases hroom : n + 1 ≤ cap1
    · have hr2 := run_append_room (P := P) w t ty e i ht hi g1 n cap1 cur hg ad 1 c [x] (by rw [hsize]; rfl) hnews hone hroom (by rw [hsize, hcs]; show n * 1 + 1 ≤ cap1 * 1; omega)
      rw [hr2] at hr
      have e3 := (Result.ok.inj hr).1
      have e4 : g1 = g := by simpa [Value.ownBlock] using congrArg Value.ownBlock e3
      omega
    · have hxl : xs.length = n * i.size := by rw [← htake, hsize, List.length_take, Array.length_toList, hcs]; omega
      have hr2 := run_append_grow (P := P) w t ty e i z ht hi hz ⟨g1, 0, none⟩ n cap1 xs hxl (World.ownsRow.cells (g := g1) (w := w) (base := base) (e := e) (size := 1) (n := n) (v := .slice (some ⟨g1, 0, none⟩) n cap1) ⟨by rw [hxl, hsize], .inr ⟨g1, cap1, cur, rfl, hbg, hg, hnc, hcm, hcs, htake⟩⟩ rfl) ad 1 c [x] (by rw [hsize]; rfl) hnews (by omega) (by unfold maxLen at h63; omega) (growslice_fits (by omega) (by rw [hby]; exact hbytes))
      rw [hr2] at hr
      have hw := (Result.ok.inj hr).2
      rw [← hw]
      exact World.cell?_of_block (w := w) (a := ⟨g1, j, none⟩) (Below.heap_alloc w.drew _ g1 (show g1 < w.drew.heap.size from hlt))
theorem wpList_append_old {ops : Array Oper} {rest : List Oper} {o : Oper} {a : Act} {Q : Exit → Act → World → Prop} (hgd : o.guard = none) (s x : Operand) (t : TypeId)
    (ho : o.op = .call { callee := .builtin .append, args := #[s, x], argTypes := #[t, t] })
    (base : Nat) (e : TypeId) (i : TypeInfo) (z : Value) (bytes : Nat) (ht : P.underlying t = some (.slice e)) (hi : P.info? e = some i) (hz : i.zero = some z)
    (hsize : i.size = 1) (hby : i.bytes = bytes) (hzs : z.cells.size = 1)
    (g0 cap0 n : Nat) (xs : List Value) (hs : a.eval s = .slice (some ⟨g0, 0, none⟩) n cap0) (hown : w.ownsRow base e 1 (.slice (some ⟨g0, 0, none⟩) n cap0) n xs)
    (ad : Addr) (c : Nat) (u : Value) (hx : a.eval x = .slice (some ad) 1 c) (hu : w.cell? (ad.add 0) = some u) (h1 : u.oneCell' = true)
    (h63 : n + 1 ≤ maxLen) (hbytes : (n + 1) * bytes ≤ 140737488355328) (hbase : base ≤ w.heap.size) (H : Nat) (hH : w.heap.size = H)
    (h : ∀ g cap w', w'.ownsRow base e 1 (.slice (some ⟨g, 0, none⟩) (n + 1) cap) (n + 1) (xs ++ [u]) → w.grownBy w' (some g0) → (g0 = g ∨ g = H) → g < w'.heap.size → (∀ j, j < n → w'.cell? ⟨g0, j, none⟩ = w.cell? ⟨g0, j, none⟩) → wpList P ops Q rest (a.put o.dst (.slice (some ⟨g, 0, none⟩) (n + 1) cap)) w') : wpList P ops Q (o :: rest) a w := by
  refine wpList_plain hgd fun K hK => ?_
  obtain ⟨g, cap, w', hr, h2, h3, h4, h5, h6⟩ := run_append_old (P := P) w t o.type base e i z bytes ht hi hz hsize hby hzs g0 cap0 n xs hown ad c u hu h1 h63 hbytes hbase H hH
  unfold Oper.wp execOp
  simp only [ho, resolve, invoke, builtin, Sem.run_bind, Sem.run_pure, Result.andThen_ok, List.map_toArray, List.map_cons, List.map_nil, hs, hx, hr]
  exact hK _ _ (h g cap w' h2 h3 h4 h5 h6)
end
end Go.Proofs.YtconcnndghmdfaaGreatDoor
